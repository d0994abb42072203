/- A state: its three parts, apart from each other. A state made; complete; which changes may be. What a change does to a state: the kinds that set and push. Is there room for all changes: how long the lists would become. hasRoom, walked. Do, as far as each change is known. Cells of a state: what they are, how they lie in a row; the pure part of Eq. Lists, fields and cells compared. All keys of a state; one cell; all cells. One cell of a state; all cells. All cells of a state. Cells compared; Eq. What the parts of a state do, as the state's own; fill. fill; Copy. Copy. -/
import Derived.Test.YtdogecaonlmalaaGreatDct1
import Derived.Test.YtdogecaonlmalaaGreatVal1
import Derived.Test.YtdogecaonlmalaaGreatMutM
import Derived.Test.YtdogecaonlmalaaGreatKeyS
namespace Go.Proofs.YtdogecaonlmalaaGreat
open Go.RowKit Go.MapKept Go.ChangeMaps

/-- Only blocks that are there matter. -/
theorem VlS.sub {w : World} {O O' : Nat → Prop} {g N : Nat} {f : K3 → Option Int} (h : VlS w O g f N) (hO : ∀ k, O k → k < w.heap.size → O' k) : VlS w O' g f N := by
  obtain ⟨mo, l, c, h⟩ := h
  exact ⟨mo, l, c, h.obj, hO g h.own (lt_of_heap h.obj), fun r e => ⟨hO r (h.made r e).1 (h.made r e).2.2.lt, (h.made r e).2⟩, h.none, h.at', h.len⟩
theorem VlS.more {w : World} {O : Nat → Prop} {g N M : Nat} {f : K3 → Option Int} (h : VlS w O g f N) (hN : N ≤ M) : VlS w O g f M := by
  obtain ⟨mo, l, c, h⟩ := h
  exact ⟨mo, l, c, h.obj, h.own, h.made, h.none, h.at', Nat.le_trans h.len hN⟩

def staO (a b c : Nat) : Obj := .cells #[.pointer (some ⟨a, 0, none⟩), .pointer (some ⟨b, 0, none⟩), .pointer (some ⟨c, 0, none⟩)] 53 (0, 0)
theorem sta_cells {w : World} {s a b c : Nat} (h : w.heap[s]? = some (staO a b c)) :
    w.cell? ⟨s, 0, none⟩ = some (.pointer (some ⟨a, 0, none⟩)) ∧ w.cell? ⟨s, 1, none⟩ = some (.pointer (some ⟨b, 0, none⟩)) ∧ w.cell? ⟨s, 2, none⟩ = some (.pointer (some ⟨c, 0, none⟩)) := by
  refine ⟨?_, ?_, ?_⟩ <;> simp [World.cell?, h, staO]

/-- A state at s with its parts at gv, gl, gd; A, B, C are the blocks of these; all are among O. -/
structure Sta (w : World) (O : Nat → Prop) (s gv gl gd : Nat) (V : K3 → Option Int) (L : K3 → List Int) (D : K3 → List (Int × Int)) (N : Nat) (A B C : Nat → Prop) : Prop where
  obj : w.heap[s]? = some (staO gv gl gd)
  own : O s
  v : VlS w A gv V N
  l : LiS w B gl L N
  d : DiS w C gd D N
  sub : ∀ k, A k ∨ B k ∨ C k → O k ∧ k ≠ s ∧ k < w.heap.size
  ab : ∀ k, A k → ¬ B k
  ac : ∀ k, A k → ¬ C k
  bc : ∀ k, B k → ¬ C k
def StaS (w : World) (O : Nat → Prop) (s gv gl gd : Nat) (V : K3 → Option Int) (L : K3 → List Int) (D : K3 → List (Int × Int)) (N : Nat) : Prop := ∃ A B C, Sta w O s gv gl gd V L D N A B C

section
variable {w w' : World} {O : Nat → Prop} {s gv gl gd N : Nat} {V : K3 → Option Int} {L : K3 → List Int} {D : K3 → List (Int × Int)}

theorem StaS.tch {S : Nat → Prop} (h : StaS w O s gv gl gd V L D N) (ht : Tch S w w') (hS : ∀ k, O k → k < w.heap.size → ¬ S k) : StaS w' O s gv gl gd V L D N := by
  obtain ⟨A, B, C, h⟩ := h
  have no : ∀ k, A k ∨ B k ∨ C k → ¬ S k := fun k hk => hS k (h.sub k hk).1 (h.sub k hk).2.2
  exact ⟨A, B, C, ht.old h.obj (hS s h.own (lt_of_heap h.obj)), h.own, h.v.tch ht (fun k hk => no k (Or.inl hk)), h.l.tch ht (fun k hk _ => no k (Or.inr (Or.inl hk))), h.d.tch ht (fun k hk _ => no k (Or.inr (Or.inr hk))),
    fun k hk => ⟨(h.sub k hk).1, (h.sub k hk).2.1, Nat.lt_of_lt_of_le (h.sub k hk).2.2 ht.size⟩, h.ab, h.ac, h.bc⟩
theorem StaS.later (h : StaS w O s gv gl gd V L D N) (hb : Below w.heap.size w w') : StaS w' O s gv gl gd V L D N :=
  h.tch (S := fun _ => False) (Below.tch hb) (fun _ _ _ e => e)
theorem StaS.more {M : Nat} (h : StaS w O s gv gl gd V L D N) (hN : N ≤ M) : StaS w O s gv gl gd V L D M := by
  obtain ⟨A, B, C, h⟩ := h
  exact ⟨A, B, C, h.obj, h.own, h.v.more hN, h.l.more hN, h.d.more hN, h.sub, h.ab, h.ac, h.bc⟩
theorem StaS.wide {O' : Nat → Prop} (h : StaS w O s gv gl gd V L D N) (hO : ∀ k, O k → k < w.heap.size → O' k) : StaS w O' s gv gl gd V L D N := by
  obtain ⟨A, B, C, h⟩ := h
  exact ⟨A, B, C, h.obj, hO s h.own (lt_of_heap h.obj), h.v, h.l, h.d, fun k hk => ⟨hO k (h.sub k hk).1 (h.sub k hk).2.2, (h.sub k hk).2⟩, h.ab, h.ac, h.bc⟩
theorem StaS.obj (h : StaS w O s gv gl gd V L D N) : w.heap[s]? = some (staO gv gl gd) := by
  obtain ⟨A, B, C, h⟩ := h
  exact h.obj
theorem StaS.rdV (h : StaS w O s gv gl gd V L D N) : ∃ X, VlS w X gv V N := by
  obtain ⟨A, B, C, h⟩ := h
  exact ⟨A, h.v⟩
theorem StaS.rdL (h : StaS w O s gv gl gd V L D N) : ∃ X, LiS w X gl L N := by
  obtain ⟨A, B, C, h⟩ := h
  exact ⟨B, h.l⟩
theorem StaS.rdD (h : StaS w O s gv gl gd V L D N) : ∃ X, DiS w X gd D N := by
  obtain ⟨A, B, C, h⟩ := h
  exact ⟨C, h.d⟩

/-- One part turns, the others stay. -/
theorem StaS.onV (h : StaS w O s gv gl gd V L D N) (hO : ∀ k, w.heap.size ≤ k → O k) :
    ∃ X : Nat → Prop, VlS w X gv V N ∧ (∀ k, w.heap.size ≤ k → X k) ∧ ∀ w' V', VlS w' X gv V' (N + 1) → Tch X w w' → StaS w' O s gv gl gd V' L D (N + 1) ∧ Tch O w w' := by
  obtain ⟨A, B, C, h⟩ := h
  have hs := lt_of_heap h.obj
  refine ⟨fun k => A k ∨ w.heap.size ≤ k, h.v.sub (fun k hk _ => Or.inl hk), fun k hk => Or.inr hk, fun w' V' hv ht => ⟨⟨fun k => (A k ∨ w.heap.size ≤ k) ∧ k < w'.heap.size, B, C, ht.old h.obj ?_, h.own, hv.sub (fun k hk hl => ⟨hk, hl⟩), (h.l.tch ht ?_).more (Nat.le_succ _), (h.d.tch ht ?_).more (Nat.le_succ _), ?_, ?_, ?_, h.bc⟩, ht.mono ?_⟩⟩
  · rintro (e | e)
    · exact (h.sub s (Or.inl e)).2.1 rfl
    · omega
  · rintro k hk hl (e | e)
    · exact h.ab k e hk
    · omega
  · rintro k hk hl (e | e)
    · exact h.ac k e hk
    · omega
  · rintro k (⟨e | e, hl⟩ | e | e)
    · exact ⟨(h.sub k (Or.inl e)).1, (h.sub k (Or.inl e)).2.1, hl⟩
    · exact ⟨hO k e, by omega, hl⟩
    · exact ⟨(h.sub k (Or.inr (Or.inl e))).1, (h.sub k (Or.inr (Or.inl e))).2.1, Nat.lt_of_lt_of_le (h.sub k (Or.inr (Or.inl e))).2.2 ht.size⟩
    · exact ⟨(h.sub k (Or.inr (Or.inr e))).1, (h.sub k (Or.inr (Or.inr e))).2.1, Nat.lt_of_lt_of_le (h.sub k (Or.inr (Or.inr e))).2.2 ht.size⟩
  · rintro k ⟨e | e, _⟩ hb
    · exact h.ab k e hb
    · have := (h.sub k (Or.inr (Or.inl hb))).2.2; omega
  · rintro k ⟨e | e, _⟩ hb
    · exact h.ac k e hb
    · have := (h.sub k (Or.inr (Or.inr hb))).2.2; omega
  · rintro k hk (e | e)
    · exact (h.sub k (Or.inl e)).1
    · omega
theorem StaS.onL (h : StaS w O s gv gl gd V L D N) (hO : ∀ k, w.heap.size ≤ k → O k) :
    ∃ X : Nat → Prop, LiS w X gl L N ∧ (∀ k, w.heap.size ≤ k → X k) ∧ ∀ w' L', LiS w' X gl L' (N + 1) → Tch X w w' → StaS w' O s gv gl gd V L' D (N + 1) ∧ Tch O w w' := by
  obtain ⟨A, B, C, h⟩ := h
  have hs := lt_of_heap h.obj
  refine ⟨fun k => B k ∨ w.heap.size ≤ k, h.l.sub (fun k hk _ => Or.inl hk), fun k hk => Or.inr hk, fun w' L' hv ht => ⟨⟨A, fun k => (B k ∨ w.heap.size ≤ k) ∧ k < w'.heap.size, C, ht.old h.obj ?_, h.own, (h.v.tch ht ?_).more (Nat.le_succ _), hv.sub (fun k hk hl => ⟨hk, hl⟩), (h.d.tch ht ?_).more (Nat.le_succ _), ?_, ?_, h.ac, ?_⟩, ht.mono ?_⟩⟩
  · rintro (e | e)
    · exact (h.sub s (Or.inr (Or.inl e))).2.1 rfl
    · omega
  · rintro k hk (e | e)
    · exact h.ab k hk e
    · have := (h.sub k (Or.inl hk)).2.2; omega
  · rintro k hk hl (e | e)
    · exact h.bc k e hk
    · omega
  · rintro k (e | ⟨e | e, hl⟩ | e)
    · exact ⟨(h.sub k (Or.inl e)).1, (h.sub k (Or.inl e)).2.1, Nat.lt_of_lt_of_le (h.sub k (Or.inl e)).2.2 ht.size⟩
    · exact ⟨(h.sub k (Or.inr (Or.inl e))).1, (h.sub k (Or.inr (Or.inl e))).2.1, hl⟩
    · exact ⟨hO k e, by omega, hl⟩
    · exact ⟨(h.sub k (Or.inr (Or.inr e))).1, (h.sub k (Or.inr (Or.inr e))).2.1, Nat.lt_of_lt_of_le (h.sub k (Or.inr (Or.inr e))).2.2 ht.size⟩
  · rintro k hk ⟨e | e, _⟩
    · exact h.ab k hk e
    · have := (h.sub k (Or.inl hk)).2.2; omega
  · rintro k ⟨e | e, _⟩ hb
    · exact h.bc k e hb
    · have := (h.sub k (Or.inr (Or.inr hb))).2.2; omega
  · rintro k hk (e | e)
    · exact (h.sub k (Or.inr (Or.inl e))).1
    · omega
theorem StaS.onD (h : StaS w O s gv gl gd V L D N) (hO : ∀ k, w.heap.size ≤ k → O k) :
    ∃ X : Nat → Prop, DiS w X gd D N ∧ (∀ k, w.heap.size ≤ k → X k) ∧ ∀ w' D', DiS w' X gd D' (N + 1) → Tch X w w' → StaS w' O s gv gl gd V L D' (N + 1) ∧ Tch O w w' := by
  obtain ⟨A, B, C, h⟩ := h
  have hs := lt_of_heap h.obj
  refine ⟨fun k => C k ∨ w.heap.size ≤ k, h.d.sub (fun k hk _ => Or.inl hk), fun k hk => Or.inr hk, fun w' D' hv ht => ⟨⟨A, B, fun k => (C k ∨ w.heap.size ≤ k) ∧ k < w'.heap.size, ht.old h.obj ?_, h.own, (h.v.tch ht ?_).more (Nat.le_succ _), (h.l.tch ht ?_).more (Nat.le_succ _), hv.sub (fun k hk hl => ⟨hk, hl⟩), ?_, h.ab, ?_, ?_⟩, ht.mono ?_⟩⟩
  · rintro (e | e)
    · exact (h.sub s (Or.inr (Or.inr e))).2.1 rfl
    · omega
  · rintro k hk (e | e)
    · exact h.ac k hk e
    · have := (h.sub k (Or.inl hk)).2.2; omega
  · rintro k hk hl (e | e)
    · exact h.bc k hk e
    · omega
  · rintro k (e | e | ⟨e | e, hl⟩)
    · exact ⟨(h.sub k (Or.inl e)).1, (h.sub k (Or.inl e)).2.1, Nat.lt_of_lt_of_le (h.sub k (Or.inl e)).2.2 ht.size⟩
    · exact ⟨(h.sub k (Or.inr (Or.inl e))).1, (h.sub k (Or.inr (Or.inl e))).2.1, Nat.lt_of_lt_of_le (h.sub k (Or.inr (Or.inl e))).2.2 ht.size⟩
    · exact ⟨(h.sub k (Or.inr (Or.inr e))).1, (h.sub k (Or.inr (Or.inr e))).2.1, hl⟩
    · exact ⟨hO k e, by omega, hl⟩
  · rintro k hk ⟨e | e, _⟩
    · exact h.ac k hk e
    · have := (h.sub k (Or.inl hk)).2.2; omega
  · rintro k hk ⟨e | e, _⟩
    · exact h.bc k hk e
    · have := (h.sub k (Or.inr (Or.inl hk))).2.2; omega
  · rintro k hk (e | e)
    · exact (h.sub k (Or.inr (Or.inr e))).1
    · omega
end
end Go.Proofs.YtdogecaonlmalaaGreat

namespace Go.Proofs.YtdogecaonlmalaaGreat
open Go.RowKit Go.MapKept Go.ChangeMaps

/-- The world behind state.New. -/
def newSt (w : World) : World := (((w.alloc (vlObj none)).alloc (rmObj 82 none)).alloc (rmObj 69 none)).alloc (staO w.heap.size (w.heap.size + 1) (w.heap.size + 1 + 1))

set_option maxRecDepth 100000 in
theorem stateNew (w : World) : Calls Tryz.prog 14 #[] w fun e w' => e = .returned (.pointer (some ⟨w.heap.size + 1 + 1 + 1, 0, none⟩)) ∧ w' = newSt w := by
  go_enter Tryz.func14, Tryz.ntmps14
  go_wp2_with fail
  refine (valueNew _).mono ?_
  rintro e w1 ⟨rfl, rfl⟩
  go_wp2_with fail
  refine (listNew _).mono ?_
  rintro e w1 ⟨rfl, rfl⟩
  go_wp2_with fail
  refine (dictNew _).mono ?_
  rintro e w1 ⟨rfl, rfl⟩
  go_wp2
  go_ret
  simp only [newSt, staO]
  first | exact ⟨rfl, rfl⟩ | (constructor <;> simp)

theorem newSt_size (w : World) : (newSt w).heap.size = w.heap.size + 4 := by simp [newSt]
theorem newSt_below (w : World) : Below w.heap.size w (newSt w) :=
  (((below_alloc w _ w.heap.size (Nat.le_refl _)).trans (below_alloc _ _ _ (by simp))).trans (below_alloc _ _ _ (by simp; omega))).trans (below_alloc _ _ _ (by simp; omega))
theorem StaS.new (w : World) (O : Nat → Prop) (hO : ∀ k, w.heap.size ≤ k → O k) : StaS (newSt w) O (w.heap.size + 1 + 1 + 1) w.heap.size (w.heap.size + 1) (w.heap.size + 1 + 1) (fun _ => none) (fun _ => []) (fun _ => []) 0 := by
  have hv := VlS.new w (fun k => k = w.heap.size) rfl
  have hl := RmS.new (T := 82) (e := 2) (sz := 1) (C := i64C) (w.alloc (vlObj none)) (fun k => k = w.heap.size + 1) (by simp)
  have hd := RmS.new (T := 69) (e := 43) (sz := 2) (C := fdC) ((w.alloc (vlObj none)).alloc (rmObj 82 none)) (fun k => k = w.heap.size + 1 + 1) (by simp)
  have ho := heap_alloc_new (((w.alloc (vlObj none)).alloc (rmObj 82 none)).alloc (rmObj 69 none)) (staO w.heap.size (w.heap.size + 1) (w.heap.size + 1 + 1))
  have e1 : (w.alloc (vlObj none)).heap.size = w.heap.size + 1 := by simp
  have e2 : ((w.alloc (vlObj none)).alloc (rmObj 82 none)).heap.size = w.heap.size + 1 + 1 := by simp
  have e3 : (((w.alloc (vlObj none)).alloc (rmObj 82 none)).alloc (rmObj 69 none)).heap.size = w.heap.size + 1 + 1 + 1 := by simp
  have e4 := newSt_size w
  rw [e1] at hl
  rw [e2] at hd
  rw [e3] at ho
  have b1 := fun o => below_alloc (w.alloc (vlObj none)) o _ (Nat.le_refl _)
  have b2 := fun o => below_alloc ((w.alloc (vlObj none)).alloc (rmObj 82 none)) o _ (Nat.le_refl _)
  have b3 := fun o => below_alloc (((w.alloc (vlObj none)).alloc (rmObj 82 none)).alloc (rmObj 69 none)) o _ (Nat.le_refl _)
  refine ⟨fun k => k = w.heap.size, fun k => k = w.heap.size + 1, fun k => k = w.heap.size + 1 + 1, ho, hO _ (by omega), ((hv.later (b1 _)).later (b2 _)).later (b3 _), (hl.later (b2 _)).later (b3 _), hd.later (b3 _), ?_, ?_, ?_, ?_⟩
  · rintro k (rfl | rfl | rfl)
    · exact ⟨hO _ (by omega), by omega, by omega⟩
    · exact ⟨hO _ (by omega), by omega, by omega⟩
    · exact ⟨hO _ (by omega), by omega, by omega⟩
  · rintro k e1 e2; omega
  · rintro k e1 e2; omega
  · rintro k e1 e2; omega

set_option maxRecDepth 100000 in
theorem stateComplete (s a b c : Nat) (w : World) (h : w.heap[s]? = some (staO a b c)) :
    Calls Tryz.prog 34 #[.pointer (some ⟨s, 0, none⟩)] w fun e w' => e = .returned (.tuple #[]) ∧ w' = w := by
  obtain ⟨c0, c1, c2⟩ := sta_cells h
  clear h
  go_enter Tryz.func34, Tryz.ntmps34
  go_wp2
  go_end0
  exact ⟨rfl, rfl⟩

theorem all_take {ms : List Mt} {p : Mt → Bool} {k : Nat} {m : Mt} (h : ms[k]? = some m) : (ms.take (k + 1)).all p = ((ms.take k).all p && p m) := by
  obtain ⟨hk, rfl⟩ := List.getElem?_eq_some_iff.1 h
  rw [List.take_succ_eq_append_getElem hk, List.all_append]
  simp

set_option maxRecDepth 100000 in
theorem allMay_any (pa : Option Addr) (c cc : Nat) (ms : List Mt) (w : World) (h : Ms w pa c ms) (hc : c ≤ 100000) :
    Calls Tryz.prog 32 #[.slice pa c cc] w fun e w' => e = .returned (.bool (ms.all mayB)) ∧ Below w.heap.size w w' := by
  have HP := hide h
  have HML := hide h.1
  clear h
  go_enter Tryz.func32, Tryz.ntmps32
  go_wp2
  go_loopw [7] (fun i wr => ∃ k : Nat, k ≤ c ∧ i = .int .i64 k ∧ Hid ((ms.take k).all mayB = true) ∧ Hid (Below w.heap.size w wr)) (fun i _ => c - (intOf i).toNat)
  case atStart => exact ⟨0, by omega, rfl, rfl, Below.refl _ _⟩
  case round =>
    obtain ⟨k, hk, rfl, HA, HB⟩ := hrel
    by_cases hlt : k < c
    · obtain ⟨m, hm⟩ : ∃ m, ms[k]? = some m := ⟨_, List.getElem?_eq_getElem (by rw [HML.out]; exact hlt)⟩
      obtain ⟨b, o, rfl, hcell⟩ := (HP.out.later HB.out (Nat.le_refl _)).2 (by omega)
      obtain ⟨z0, z1, z2, z3, z4, z5⟩ := hcell k m hm
      have HT := hide (all_take (p := mayB) hm)
      rw [HA.out, Bool.true_and] at HT
      have HF : Hid (mayB m = false → ms.all mayB = false) := fun e => by
        rw [Bool.eq_false_iff]
        intro hall
        have := List.all_eq_true.1 hall m (List.mem_of_getElem? hm)
        rw [e] at this
        cases this
      have CM := hide (fun w => may_any m w)
      clear hcell hm
      cases hmb : mayB m with
      | true =>
        rw [hmb] at CM HT
        obtain ⟨mk, mg, mn, mi, mf, mx⟩ := m
        unfold mV at CM
        simp only at *
        clear HF hmb HP
        go_wp2_with fail
        refine (CM.out _).mono ?_
        rintro e w2 ⟨rfl, hb2⟩
        have HB2 := hide (HB.out.trans ((below_alloc wr (mtObj ⟨mk, mg, mn, mi, mf, mx⟩) w.heap.size HB.out.size).trans (hb2.mono (by simp; have := HB.out.size; omega))))
        clear hb2 HB CM z0 z1 z2 z3 z4 z5
        go_wp2
        exact ⟨⟨k + 1, by omega, by simp, HT, HB2⟩, by simp [intOf]; omega⟩
      | false =>
        have HF2 := hide (HF.out hmb)
        rw [hmb] at CM
        obtain ⟨mk, mg, mn, mi, mf, mx⟩ := m
        unfold mV at CM
        simp only at *
        clear HF hmb HP HT
        go_wp2_with fail
        refine (CM.out _).mono ?_
        rintro e w2 ⟨rfl, hb2⟩
        have HB2 := hide (HB.out.trans ((below_alloc wr (mtObj ⟨mk, mg, mn, mi, mf, mx⟩) w.heap.size HB.out.size).trans (hb2.mono (by simp; have := HB.out.size; omega))))
        clear hb2 HB CM z0 z1 z2 z3 z4 z5
        go_wp2
        go_ret
        exact ⟨ret_bool HF2.out.symm, HB2.out⟩
    · have e : ms.take k = ms := List.take_of_length_le (by have := HML.out; omega)
      have HA2 : Hid (ms.all mayB = true) := by have := HA.out; rw [e] at this; exact this
      clear e HA
      go_wp2
      go_ret
      exact ⟨ret_bool HA2.out.symm, HB.out⟩
end Go.Proofs.YtdogecaonlmalaaGreat

namespace Go.Proofs.YtdogecaonlmalaaGreat
open Go.RowKit Go.MapKept Go.ChangeMaps

/-- A change whose key is a key of state. -/
structure Mq where
  c : Int
  k : K3
  f : Int
  v : Int
def Mq.m (x : Mq) : Mt := ⟨x.c, x.k.g, x.k.n, x.k.i, x.f, x.v⟩

theorem mt_later {w w' : World} {m : Mt} {S : Nat → Prop} (ht : Tch S (w.alloc (mtObj m)) w') (hS : ¬ S w.heap.size) : w'.heap[w.heap.size]? = some (mtObj m) := ht.old (heap_alloc_new w _) hS

set_option maxRecDepth 100000 in
set_option maxHeartbeats 800000 in
theorem changeSet (O : Nat → Prop) (s gv gl gd N : Nat) (V : K3 → Option Int) (L : K3 → List Int) (D : K3 → List (Int × Int)) (k : K3) (f v : Int) (w : World) (h : StaS w O s gv gl gd V L D N) (hO : ∀ k, w.heap.size ≤ k → O k) :
    Calls Tryz.prog 35 #[.pointer (some ⟨s, 0, none⟩), mV ⟨1, k.g, k.n, k.i, f, v⟩] w fun e w' => e = .returned (.tuple #[]) ∧ StaS w' O s gv gl gd (updK V k (some v)) L D (N + 1) ∧ Tch O w w' := by
  have hb := below_alloc w (mtObj ⟨1, k.g, k.n, k.i, f, v⟩) w.heap.size (Nat.le_refl _)
  have hbx := heap_alloc_new w (mtObj ⟨1, k.g, k.n, k.i, f, v⟩)
  obtain ⟨x0, x1, x2, x3, x4, x5⟩ := mt_cells hbx
  have h1 := (h.wide (O' := fun j => O j ∧ j ≠ w.heap.size) (fun j hj hl => ⟨hj, by omega⟩)).later hb
  obtain ⟨c0, c1, c2⟩ := sta_cells h1.obj
  have hD := (Below.refl (w.alloc (mtObj ⟨1, k.g, k.n, k.i, f, v⟩)).heap.size (w.alloc (mtObj ⟨1, k.g, k.n, k.i, f, v⟩))).drew
  have HC : Hid (Calls Tryz.prog 16 #[.pointer (some ⟨gv, 0, none⟩), k3E k, .int .i64 v] (w.alloc (mtObj ⟨1, k.g, k.n, k.i, f, v⟩)).drew fun e w' => e = .returned (.tuple #[]) ∧ StaS w' O s gv gl gd (updK V k (some v)) L D (N + 1) ∧ Tch O w w' ∧
      (w'.cell? ⟨s, 0, none⟩ = some (.pointer (some ⟨gv, 0, none⟩)) ∧ w'.cell? ⟨w.heap.size, 1, none⟩ = some (.int .i64 k.g) ∧ w'.cell? ⟨w.heap.size, 2, none⟩ = some (.int .i64 k.n) ∧ w'.cell? ⟨w.heap.size, 3, none⟩ = some (.int .i64 k.i) ∧ w'.cell? ⟨w.heap.size, 5, none⟩ = some (.int .i64 v))) := by
    obtain ⟨X, q1, q2, q3⟩ := (h1.later hD).onV (fun j hj => ⟨hO j (Nat.le_trans (hb.trans (hD.mono hb.size)).size hj), fun e => by have := hD.size; simp at this hj; omega⟩)
    refine (valueSet X gv N V k v _ q1 q2).mono ?_
    rintro e w' ⟨r1, r2, r3⟩
    obtain ⟨p1, p2⟩ := q3 w' _ r2 r3
    have hbx' : w'.heap[w.heap.size]? = _ := (p2.block w.heap.size (by show w.heap.size < (w.alloc (mtObj ⟨1, k.g, k.n, k.i, f, v⟩)).heap.size; simp) (fun e => e.2 rfl)).trans ((hD.block w.heap.size (by simp)).trans hbx)
    obtain ⟨_, z1, z2, z3, _, z5⟩ := mt_cells hbx'
    obtain ⟨d0', _, _⟩ := sta_cells p1.obj
    exact ⟨r1, p1.wide (fun j hj _ => hj.1), ((Below.tch hb).trans (Below.tch hD)).trans (p2.mono (fun j _ hj => hj.1)), d0', z1, z2, z3, z5⟩
  clear h h1 hb hO hD hbx
  unfold mtObj at *
  unfold mV k3E at *
  simp only at *
  go_enter Tryz.func35, Tryz.ntmps35
  go_wp2
  go_region_held3 (fun w' => w'.cell? ⟨s, 0, none⟩ = some (.pointer (some ⟨gv, 0, none⟩)) ∧ w'.cell? ⟨w.heap.size, 1, none⟩ = some (.int .i64 k.g) ∧ w'.cell? ⟨w.heap.size, 2, none⟩ = some (.int .i64 k.n) ∧ w'.cell? ⟨w.heap.size, 3, none⟩ = some (.int .i64 k.i) ∧ w'.cell? ⟨w.heap.size, 5, none⟩ = some (.int .i64 v)) (first | exact ⟨c0, x1, x2, x3, x5⟩ | exact k4) ((go_at_call 16; refine HC.out.mono ?_; rintro e W1 ⟨rfl, k1, k2, k4⟩; have HK := hide (And.intro k1 k2); clear k1 k2))
  all_goals
    clear HC
    go_wp2
    go_end0
    exact ⟨rfl, HK.out.1, HK.out.2⟩

set_option maxRecDepth 100000 in
set_option maxHeartbeats 800000 in
theorem changePush (O : Nat → Prop) (s gv gl gd N : Nat) (V : K3 → Option Int) (L : K3 → List Int) (D : K3 → List (Int × Int)) (k : K3) (f v : Int) (w : World) (h : StaS w O s gv gl gd V L D N) (hO : ∀ k, w.heap.size ≤ k → O k) (hl : (L k).length < 100) :
    Calls Tryz.prog 35 #[.pointer (some ⟨s, 0, none⟩), mV ⟨3, k.g, k.n, k.i, f, v⟩] w fun e w' => e = .returned (.tuple #[]) ∧ StaS w' O s gv gl gd V (updR L k (L k ++ [v])) D (N + 1) ∧ Tch O w w' := by
  have hb := below_alloc w (mtObj ⟨3, k.g, k.n, k.i, f, v⟩) w.heap.size (Nat.le_refl _)
  have hbx := heap_alloc_new w (mtObj ⟨3, k.g, k.n, k.i, f, v⟩)
  obtain ⟨x0, x1, x2, x3, x4, x5⟩ := mt_cells hbx
  have h1 := (h.wide (O' := fun j => O j ∧ j ≠ w.heap.size) (fun j hj hl => ⟨hj, by omega⟩)).later hb
  obtain ⟨c0, c1, c2⟩ := sta_cells h1.obj
  have hD := (Below.refl (w.alloc (mtObj ⟨3, k.g, k.n, k.i, f, v⟩)).heap.size (w.alloc (mtObj ⟨3, k.g, k.n, k.i, f, v⟩))).drew
  have hE := below_alloc (w.alloc (mtObj ⟨3, k.g, k.n, k.i, f, v⟩)).drew (.cells #[.int .i64 v] 2) _ (Nat.le_refl _)
  have hn := heap_alloc_new (w.alloc (mtObj ⟨3, k.g, k.n, k.i, f, v⟩)).drew (.cells #[.int .i64 v] 2)
  have hs : (w.alloc (mtObj ⟨3, k.g, k.n, k.i, f, v⟩)).drew.heap.size = w.heap.size + 1 := by show (w.alloc _).heap.size = _; simp
  rw [hs] at hn
  have hDE := hD.trans (hE.mono hD.size)
  have y1 := same_cell hDE x1
  have y2 := same_cell hDE x2
  have y3 := same_cell hDE x3
  have y5 := same_cell hDE x5
  have d1 := same_cell hDE c1
  have hr : Rd ((w.alloc (mtObj ⟨3, k.g, k.n, k.i, f, v⟩)).drew.alloc (.cells #[.int .i64 v] 2)) (some ⟨w.heap.size + 1, 0, none⟩) 1 1 [v] :=
    ⟨rfl, fun e => (by cases e), fun a ha j u hj => by
      cases ha
      match j, hj with
      | 0, hj => simp at hj; subst hj; rw [add_none, Nat.zero_add, World.cell?, hn]; rfl
      | j + 1, hj => simp at hj, Nat.le_refl _⟩
  have HC : Hid (Calls Tryz.prog 18 #[.pointer (some ⟨gl, 0, none⟩), k3E k, .slice (some ⟨w.heap.size + 1, 0, none⟩) 1 1] ((w.alloc (mtObj ⟨3, k.g, k.n, k.i, f, v⟩)).drew.alloc (.cells #[.int .i64 v] 2)) fun e w' => (∃ x, e = .returned (.int .i64 x)) ∧ StaS w' O s gv gl gd V (updR L k (L k ++ [v])) D (N + 1) ∧ Tch O w w' ∧
      (w'.cell? ⟨s, 1, none⟩ = some (.pointer (some ⟨gl, 0, none⟩)) ∧ w'.cell? ⟨w.heap.size, 1, none⟩ = some (.int .i64 k.g) ∧ w'.cell? ⟨w.heap.size, 2, none⟩ = some (.int .i64 k.n) ∧ w'.cell? ⟨w.heap.size, 3, none⟩ = some (.int .i64 k.i) ∧ w'.cell? ⟨w.heap.size, 5, none⟩ = some (.int .i64 v))) := by
    obtain ⟨X, q1, q2, q3⟩ := ((h1.later hD).later hE).onL (fun j hj => ⟨hO j (Nat.le_trans (hb.trans (hDE.mono hb.size)).size hj), fun e => by have := hE.size; rw [hs] at this; omega⟩)
    refine (listPush X gl N L k (some ⟨w.heap.size + 1, 0, none⟩) 1 1 [v] _ q1 q2 hr (by omega)).mono ?_
    rw [if_pos (show (L k).length + 1 ≤ 100 by omega), if_pos (show (L k).length + 1 ≤ 100 by omega)]
    rintro e w' ⟨r1, r2, r3⟩
    obtain ⟨p1, p2⟩ := q3 w' _ r2 r3
    have hbx' : w'.heap[w.heap.size]? = _ := (p2.block w.heap.size (by have := hE.size; rw [hs] at this; omega) (fun e => e.2 rfl)).trans ((hDE.block w.heap.size (by simp)).trans hbx)
    obtain ⟨_, z1, z2, z3, _, z5⟩ := mt_cells hbx'
    obtain ⟨_, d1', _⟩ := sta_cells p1.obj
    exact ⟨⟨_, r1⟩, p1.wide (fun j hj _ => hj.1), (((Below.tch hb).trans (Below.tch hD)).trans (Below.tch hE)).trans (p2.mono (fun j _ hj => hj.1)), d1', z1, z2, z3, z5⟩
  clear h h1 hb hO hD hE hDE hn hr hbx hs
  unfold mtObj at *
  unfold mV k3E at *
  simp only at *
  go_enter Tryz.func35, Tryz.ntmps35
  go_wp2
  go_region_held3 (fun w' => w'.cell? ⟨s, 1, none⟩ = some (.pointer (some ⟨gl, 0, none⟩)) ∧ w'.cell? ⟨w.heap.size, 1, none⟩ = some (.int .i64 k.g) ∧ w'.cell? ⟨w.heap.size, 2, none⟩ = some (.int .i64 k.n) ∧ w'.cell? ⟨w.heap.size, 3, none⟩ = some (.int .i64 k.i) ∧ w'.cell? ⟨w.heap.size, 5, none⟩ = some (.int .i64 v)) (first | exact ⟨c1, x1, x2, x3, x5⟩ | exact ⟨d1, y1, y2, y3, y5⟩ | exact k4) ((go_at_call 18; refine HC.out.mono ?_; rintro e W1 ⟨⟨er, rfl⟩, k1, k2, k4⟩; have HK := hide (And.intro k1 k2); clear k1 k2))
  all_goals
    clear HC
    go_wp2
    go_end0
    exact ⟨rfl, HK.out.1, HK.out.2⟩
end Go.Proofs.YtdogecaonlmalaaGreat

namespace Go.Proofs.YtdogecaonlmalaaGreat
open Go.RowKit Go.MapKept Go.ChangeMaps

def curL (L : K3 → List Int) (lg : K3 → Option Int) (k : K3) : Int := (lg k).getD ((L k).length : Int)
def lgS (L : K3 → List Int) (lg : K3 → Option Int) (x : Mq) : K3 → Option Int := if x.c = 3 then updK lg x.k (some (curL L lg x.k + 1)) else if x.c = 4 then updK lg x.k (some 0) else lg
/-- Would no list be too long? -/
def roomB (L : K3 → List Int) : (K3 → Option Int) → List Mq → Bool
  | _, [] => true
  | lg, x :: xs => if x.c = 3 ∧ 100 ≤ curL L lg x.k then false else roomB L (lgS L lg x) xs

theorem undN : Tryz.prog.underlying 102 = some (.map 28 3) := Tryz.underlying102
theorem zeroN (w : World) : (zeroValue 3).run Tryz.prog w = .ok (.int .i64 0) w := by
  have hz : Tryz.t3.zero = some (.int .i64 0) := by kernel_rfl
  simp [zeroValue, hz]

/-- Behind k changes: the map of lengths. -/
structure Rom (w wr : World) (L : K3 → List Int) (lg : K3 → Option Int) (l : List (Ent K3)) (c : Nat) (xs : List Mq) (k : Nat) : Prop where
  mp : Mp k3E wr w.heap.size l c
  at' : ∀ b, atE l b = (lg b).map (Value.int .i64)
  bd : ∀ b n, lg b = some n → 0 ≤ n ∧ n ≤ 100
  eq : roomB L (fun _ => none) xs = roomB L lg (xs.drop k)
  bel : Below w.heap.size w wr

theorem dropMq {xs : List Mq} {k : Nat} {x : Mq} (h : xs[k]? = some x) : xs.drop k = x :: xs.drop (k + 1) := by
  obtain ⟨hk, rfl⟩ := List.getElem?_eq_some_iff.1 h
  exact List.drop_eq_getElem_cons hk
theorem Rom.no {w wr : World} {L : K3 → List Int} {lg : K3 → Option Int} {l : List (Ent K3)} {c k : Nat} {xs : List Mq} {x : Mq} (h : Rom w wr L lg l c xs k) (hx : xs[k]? = some x) (hc : x.c = 3) (hl : 100 ≤ curL L lg x.k) : roomB L (fun _ => none) xs = false := by
  rw [h.eq, dropMq hx, roomB, if_pos ⟨hc, hl⟩]
theorem Rom.next {w wr W : World} {L : K3 → List Int} {lg : K3 → Option Int} {l l' : List (Ent K3)} {c c' k : Nat} {xs : List Mq} {x : Mq} (h : Rom w wr L lg l c xs k) (hx : xs[k]? = some x) (hn : ¬ (x.c = 3 ∧ 100 ≤ curL L lg x.k))
    (mp : Mp k3E W w.heap.size l' c') (at' : ∀ b, atE l' b = (lgS L lg x b).map (Value.int .i64)) (bel : Below w.heap.size w W) : Rom w W L (lgS L lg x) l' c' xs (k + 1) := by
  refine ⟨mp, at', fun b n hb => ?_, ?_, bel⟩
  · unfold lgS at hb
    by_cases h3 : x.c = 3
    · rw [if_pos h3, updK] at hb
      by_cases e : b = x.k
      · rw [if_pos e] at hb
        have hc : ¬ 100 ≤ curL L lg x.k := fun hl => hn ⟨h3, hl⟩
        have h0 : 0 ≤ curL L lg x.k := by
          unfold curL
          cases hlg : lg x.k with
          | none => simp
          | some m => exact (h.bd _ _ hlg).1
        have := Option.some.inj hb
        omega
      · rw [if_neg e] at hb; exact h.bd b n hb
    · rw [if_neg h3] at hb
      by_cases h4 : x.c = 4
      · rw [if_pos h4, updK] at hb
        by_cases e : b = x.k
        · rw [if_pos e] at hb; have := Option.some.inj hb; omega
        · rw [if_neg e] at hb; exact h.bd b n hb
      · rw [if_neg h4] at hb; exact h.bd b n hb
  · rw [h.eq, dropMq hx, roomB, if_neg hn]
theorem lgS_3 {L : K3 → List Int} {lg : K3 → Option Int} {x : Mq} (h : x.c = 3) (b : K3) : (lgS L lg x b).map (Value.int .i64) = if b = x.k then some (Value.int .i64 (curL L lg x.k + 1)) else (lg b).map (Value.int .i64) := by
  unfold lgS updK
  rw [if_pos h]
  by_cases e : b = x.k <;> simp [e]
theorem lgS_4 {L : K3 → List Int} {lg : K3 → Option Int} {x : Mq} (h3 : ¬ x.c = 3) (h : x.c = 4) (b : K3) : (lgS L lg x b).map (Value.int .i64) = if b = x.k then some (Value.int .i64 0) else (lg b).map (Value.int .i64) := by
  unfold lgS updK
  rw [if_neg h3, if_pos h]
  by_cases e : b = x.k <;> simp [e]
theorem lgS_no {L : K3 → List Int} {lg : K3 → Option Int} {x : Mq} (h3 : ¬ x.c = 3) (h4 : ¬ x.c = 4) : lgS L lg x = lg := by
  unfold lgS
  rw [if_neg h3, if_neg h4]

/-- The update of the map of lengths. -/
theorem Rom.upd {w wr W : World} {L : K3 → List Int} {lg : K3 → Option Int} {l : List (Ent K3)} {c k : Nat} {xs : List Mq} {x : Mq} (h : Rom w wr L lg l c xs k) (hx : xs[k]? = some x) (hn : ¬ (x.c = 3 ∧ 100 ≤ curL L lg x.k)) (hb : Below wr.heap.size wr W) (n : Int)
    (hlg : ∀ b, (lgS L lg x b).map (Value.int .i64) = if b = x.k then some (Value.int .i64 n) else (lg b).map (Value.int .i64)) :
    ∃ W2 l' c', (Instr.mapUpdate 102 (.map (some w.heap.size)) (k3E x.k) (.int .i64 n)).run Tryz.prog W = .ok () W2 ∧ Rom w W2 L (lgS L lg x) l' c' xs (k + 1) := by
  have hm : Mp k3E W w.heap.size l c := h.mp.at (hb.block _ h.mp.lt)
  obtain ⟨W2, l', c', h1, h2, h3, h4, h5⟩ := hm.upd2 k3Keyd undN x.k (.int .i64 n)
  have hbW : Below w.heap.size w W := h.bel.trans (hb.mono h.bel.size)
  refine ⟨W2, l', c', h1, h.next hx hn h2 (fun b => ?_) (hbW.grown h3 hbW.size (fun j hj => by cases hj; exact Nat.le_refl _))⟩
  rw [h4 b, hlg b, h.at' b]
end Go.Proofs.YtdogecaonlmalaaGreat

namespace Go.Proofs.YtdogecaonlmalaaGreat
open Go.RowKit Go.MapKept Go.ChangeMaps

/-- The cells of a change in a row. -/
theorem Ms.atQ {w : World} {pa : Option Addr} {c : Nat} {xs : List Mq} (h : Ms w pa c (xs.map Mq.m)) {k : Nat} {x : Mq} (hx : xs[k]? = some x) : ∃ b o, pa = some ⟨b, o, none⟩ ∧
    w.cell? ⟨b, o + k * 6, none⟩ = some (.int .i64 x.c) ∧ w.cell? ⟨b, o + k * 6 + 1, none⟩ = some (.int .i64 x.k.g) ∧ w.cell? ⟨b, o + k * 6 + 2, none⟩ = some (.int .i64 x.k.n) ∧ w.cell? ⟨b, o + k * 6 + 3, none⟩ = some (.int .i64 x.k.i) ∧ w.cell? ⟨b, o + k * 6 + 4, none⟩ = some (.int .i64 x.f) ∧ w.cell? ⟨b, o + k * 6 + 5, none⟩ = some (.int .i64 x.v) := by
  have hlt : k < xs.length := (List.getElem?_eq_some_iff.1 hx).1
  obtain ⟨b, o, e, hc⟩ := h.2 (by have := h.1; simp at this; omega)
  exact ⟨b, o, e, hc k x.m (by rw [List.getElem?_map, hx]; rfl)⟩

set_option maxRecDepth 100000 in
set_option maxHeartbeats 2000000 in
theorem hasRoom_any (O : Nat → Prop) (s gv gl gd N : Nat) (V : K3 → Option Int) (L : K3 → List Int) (D : K3 → List (Int × Int)) (pa : Option Addr) (n cc : Nat) (xs : List Mq) (w : World) (h : StaS w O s gv gl gd V L D N) (hL : ∀ k, (L k).length ≤ 100) (hm : Ms w pa n (xs.map Mq.m)) (hn : n ≤ 100000) :
    Calls Tryz.prog 33 #[.pointer (some ⟨s, 0, none⟩), .slice pa n cc] w fun e w' => e = .returned (.bool (roomB L (fun _ => none) xs)) ∧ Below w.heap.size w w' := by
  have hmm := @run_makeMap Tryz.prog
  have HSt := hide h
  have HM := hide hm
  have HL := hide hL
  have HLN : Hid (xs.length = n) := by have := hm.1; rw [List.length_map] at this; exact this
  have hb0 := below_alloc w (.map #[] 0) w.heap.size (Nat.le_refl _)
  have HR0 : Hid (Rom w (w.alloc (.map #[] 0)) L (fun _ => none) [] 0 xs 0) := ⟨Mp.new w, fun b => rfl, fun b n e => (by cases e), rfl, hb0⟩
  clear h hm hL hb0
  go_enter Tryz.func33, Tryz.ntmps33
  go_wp2
  go_loopw [13] (fun i wr => ∃ (k : Nat) (lg : K3 → Option Int) (l : List (Ent K3)) (c : Nat), k ≤ n ∧ i = .int .i64 k ∧ Hid (Rom w wr L lg l c xs k)) (fun i _ => n - (intOf i).toNat)
  case atStart => exact ⟨0, _, _, _, by omega, rfl, HR0⟩
  case round =>
    clear HR0
    obtain ⟨k, lg, l, c, hk, rfl, HR⟩ := hrel
    by_cases hlt : k < n
    · obtain ⟨x, hx⟩ : ∃ x, xs[k]? = some x := ⟨_, List.getElem?_eq_getElem (by rw [HLN.out]; exact hlt)⟩
      obtain ⟨b, o, rfl, z0, z1, z2, z3, z4, z5⟩ := (HM.out.later HR.out.bel (Nat.le_refl _)).atQ hx
      have hbA := below_alloc wr (mtObj x.m) wr.heap.size (Nat.le_refl _)
      have HX := hide hx
      have HBA := hide hbA
      have y := mt_cells (heap_alloc_new wr (mtObj x.m))
      have hwr := HR.out.bel.size
      have hlk : (Instr.lookup 102 (.map (some w.heap.size)) (k3E x.k) true).run Tryz.prog (wr.alloc (mtObj x.m)) = .ok (.tuple #[.int .i64 ((lg x.k).getD 0), .bool (lg x.k).isSome]) (wr.alloc (mtObj x.m)) := by
        have := (HR.out.mp.at (hbA.block _ HR.out.mp.lt)).look k3Keyd undN (zeroN _) x.k true
        rw [HR.out.at' x.k] at this
        rw [this]
        cases lg x.k <;> rfl
      by_cases h3 : x.c = 3
      · have b3 : (x.c == 3) = true := by simpa using h3
        have HC3 := hide h3
        cases hlg : lg x.k with
        | some m =>
          have hcur : curL L lg x.k = m := by unfold curL; rw [hlg]; rfl
          have HCU := hide hcur
          have hbd := HR.out.bd _ _ hlg
          rw [hlg] at hlk
          simp only [Option.getD_some, Option.isSome_some] at hlk
          by_cases hf : 100 ≤ m
          · have HNO := hide (HR.out.no hx h3 (by rw [hcur]; exact hf))
            have HBE := hide (HR.out.bel.trans (hbA.mono hwr))
            clear hx hbA hcur HCU hlg HR HX HBA h3
            obtain ⟨xc, xk, xf, xv⟩ := x
            unfold Mq.m at *
            unfold mtObj at *
            unfold k3E at *
            simp only at *
            go_wp2
            go_ret
            exact ⟨ret_bool HNO.out.symm, HBE.out⟩
          · have hnf : ¬ (x.c = 3 ∧ 100 ≤ curL L lg x.k) := fun e => hf (by have := e.2; rw [hcur] at this; exact this)
            obtain ⟨W2, l', c', hup, hR'⟩ := HR.out.upd hx hnf hbA (m + 1) (fun b => by rw [lgS_3 h3, hcur])
            have hw1 : IntKind.i64.wrap (m + 1) = m + 1 := by rw [IntKind.wrap_i64]; omega
            have HR' := hide hR'
            clear hx hbA hcur HCU hlg HR hR' HX HBA h3 hnf
            generalize lgS L lg x = lg' at *
            obtain ⟨xc, xk, xf, xv⟩ := x
            unfold Mq.m at *
            unfold mtObj at *
            unfold k3E at *
            simp only at *
            go_wp2
            exact ⟨⟨k + 1, _, _, _, by omega, by simp, HR'⟩, by simp [intOf]; omega⟩
        | none =>
          have hcur : curL L lg x.k = ((L x.k).length : Int) := by unfold curL; rw [hlg]; rfl
          have hll := HL.out x.k
          rw [hlg] at hlk
          simp only [Option.getD_none, Option.isSome_none] at hlk
          have hSt := (HSt.out.later HR.out.bel).later hbA
          obtain ⟨_, c1, _⟩ := sta_cells hSt.obj
          have hD := (Below.refl (wr.alloc (mtObj x.m)).heap.size (wr.alloc (mtObj x.m))).drew
          have hbx := heap_alloc_new wr (mtObj x.m)
          have HCL : Hid (Calls Tryz.prog 22 #[.pointer (some ⟨gl, 0, none⟩), k3E x.k] (wr.alloc (mtObj x.m)).drew fun e w' => ∃ ao cp, e = .returned (.slice ao (L x.k).length cp) ∧ Below wr.heap.size wr w' ∧
              (w'.cell? ⟨s, 1, none⟩ = some (.pointer (some ⟨gl, 0, none⟩)) ∧ w'.cell? ⟨wr.heap.size, 1, none⟩ = some (.int .i64 x.k.g) ∧ w'.cell? ⟨wr.heap.size, 2, none⟩ = some (.int .i64 x.k.n) ∧ w'.cell? ⟨wr.heap.size, 3, none⟩ = some (.int .i64 x.k.i))) := by
            obtain ⟨X, hX⟩ := (hSt.later hD).rdL
            refine (listList X gl N L x.k _ hX hll).mono ?_
            rintro e w' ⟨v, r1, r2, r3⟩
            obtain ⟨ao, cp, rfl, _, _⟩ := RowI.slice r2.row
            have hT := hD.trans (r3.mono hD.size)
            exact ⟨ao, cp, r1, hbA.trans (hT.mono hbA.size), same_cell hT c1, same_cell hT y.2.1, same_cell hT y.2.2.1, same_cell hT y.2.2.2.1⟩
          obtain ⟨y0, y1, y2, y3, y4, y5⟩ := y
          have HLK := hide hlg
          clear hD hbx hSt hbA hlg hx
          by_cases hf : 100 ≤ ((L x.k).length : Int)
          · have HNO := hide (HR.out.no HX.out h3 (by rw [hcur]; exact hf))
            have HBL := hide HR.out.bel
            clear hcur HR HX HBA HLK h3
            obtain ⟨xc, xk, xf, xv⟩ := x
            unfold Mq.m at *
            unfold mtObj at *
            unfold k3E at *
            simp only at *
            go_wp2
            go_region_held3 (fun w' => w'.cell? ⟨s, 1, none⟩ = some (.pointer (some ⟨gl, 0, none⟩)) ∧ w'.cell? ⟨wr.heap.size, 1, none⟩ = some (.int .i64 xk.g) ∧ w'.cell? ⟨wr.heap.size, 2, none⟩ = some (.int .i64 xk.n) ∧ w'.cell? ⟨wr.heap.size, 3, none⟩ = some (.int .i64 xk.i)) (first | exact ⟨c1, y1, y2, y3⟩ | exact k4) ((go_at_call 22; refine HCL.out.mono ?_; rintro e W1 ⟨ao, cp, rfl, k1, k4⟩; have HK := hide k1; clear k1))
            all_goals
              clear HCL
              go_wp2
              go_ret
              exact ⟨ret_bool HNO.out.symm, HBL.out.trans (HK.out.mono HBL.out.size)⟩
          · have hnf : ¬ (x.c = 3 ∧ 100 ≤ curL L lg x.k) := fun e => hf (by have := e.2; rw [hcur] at this; exact this)
            have hw1 : IntKind.i64.wrap (((L x.k).length : Int) + 1) = ((L x.k).length : Int) + 1 := by rw [IntKind.wrap_i64]; omega
            have HUP := hide (fun W (hb : Below wr.heap.size wr W) => HR.out.upd HX.out hnf hb (((L x.k).length : Int) + 1) (fun b => by rw [lgS_3 h3, hcur]))
            clear hcur HR HX HBA HLK hnf h3
            generalize lgS L lg x = lg' at *
            generalize (L x.k).length = len at *
            obtain ⟨xc, xk, xf, xv⟩ := x
            unfold Mq.m at *
            unfold mtObj at *
            unfold k3E at *
            simp only at *
            go_wp2
            go_region_held3 (fun w' => w'.cell? ⟨s, 1, none⟩ = some (.pointer (some ⟨gl, 0, none⟩)) ∧ w'.cell? ⟨wr.heap.size, 1, none⟩ = some (.int .i64 xk.g) ∧ w'.cell? ⟨wr.heap.size, 2, none⟩ = some (.int .i64 xk.n) ∧ w'.cell? ⟨wr.heap.size, 3, none⟩ = some (.int .i64 xk.i)) (first | exact ⟨c1, y1, y2, y3⟩ | exact k4) ((go_at_call 22; refine HCL.out.mono ?_; rintro e W1 ⟨ao, cp, rfl, k1, k4⟩; have HK := hide k1; clear k1))
            all_goals
              obtain ⟨W2, l', c', hup, hR'⟩ := HUP.out _ HK.out
              have HR' := hide hR'
              obtain ⟨t1, t2, t3, t4⟩ := k4
              clear HCL hR' HUP
              go_wp2
              exact ⟨⟨k + 1, _, _, _, by omega, by simp, HR'⟩, by simp [intOf]; omega⟩
      · have b3 : (x.c == 3) = false := by simpa using h3
        clear hlk
        by_cases h4 : x.c = 4
        · have b4 : (x.c == 4) = true := by simpa using h4
          obtain ⟨W2, l', c', hup, hR'⟩ := HR.out.upd hx (fun e => h3 e.1) hbA 0 (fun b => lgS_4 h3 h4 b)
          have HR' := hide hR'
          clear hx hbA HR hR' HX HBA h3 h4
          generalize lgS L lg x = lg' at *
          obtain ⟨xc, xk, xf, xv⟩ := x
          unfold Mq.m at *
          unfold mtObj at *
          unfold k3E at *
          simp only at *
          go_wp2
          exact ⟨⟨k + 1, _, _, _, by omega, by simp, HR'⟩, by simp [intOf]; omega⟩
        · have b4 : (x.c == 4) = false := by simpa using h4
          have hR' := HR.out.next hx (fun e => h3 e.1) (HR.out.mp.at (hbA.block _ HR.out.mp.lt)) (by rw [lgS_no h3 h4]; exact HR.out.at') (HR.out.bel.trans (hbA.mono hwr))
          have HR' := hide hR'
          clear hx hbA HR hR' HX HBA h3 h4
          generalize lgS L lg x = lg' at *
          obtain ⟨xc, xk, xf, xv⟩ := x
          unfold Mq.m at *
          unfold mtObj at *
          simp only at *
          go_wp2
          exact ⟨⟨k + 1, _, _, _, by omega, by simp, HR'⟩, by simp [intOf]; omega⟩
    · have hlast : roomB L (fun _ => none) xs = true := by
        rw [HR.out.eq, List.drop_eq_nil_of_le (by have := HLN.out; omega)]
        rfl
      have HLA := hide hlast
      have HBE := hide HR.out.bel
      clear hlast HR
      go_wp2
      go_ret
      exact ⟨ret_bool HLA.out.symm, HBE.out⟩
end Go.Proofs.YtdogecaonlmalaaGreat

namespace Go.Proofs.YtdogecaonlmalaaGreat
open Go.RowKit Go.MapKept Go.ChangeMaps

/-- What a state holds. -/
structure Ab where
  V : K3 → Option Int
  L : K3 → List Int
  D : K3 → List (Int × Int)
/-- A field put among others, by rising numbers; one cut. -/
def putF (z : List (Int × Int)) (f v : Int) : List (Int × Int) := if hasT z f then z.set (lowF z f) (f, v) else z.take (lowF z f) ++ (f, v) :: z.drop (lowF z f)
def cutF (z : List (Int × Int)) (f : Int) : List (Int × Int) := if hasT z f then z.eraseIdx (lowF z f) else z
/-- One change done. -/
def doQ (a : Ab) (x : Mq) : Ab :=
  if x.c = 1 then ⟨updK a.V x.k (some x.v), a.L, a.D⟩ else if x.c = 2 then ⟨updK a.V x.k none, a.L, a.D⟩
  else if x.c = 3 then ⟨a.V, updR a.L x.k (a.L x.k ++ [x.v]), a.D⟩ else if x.c = 4 then ⟨a.V, updR a.L x.k [], a.D⟩
  else if x.c = 5 then ⟨a.V, a.L, updR a.D x.k (putF (a.D x.k) x.f x.v)⟩ else if x.c = 6 then ⟨a.V, a.L, updR a.D x.k (cutF (a.D x.k) x.f)⟩ else a
def runQ (a : Ab) (xs : List Mq) : Ab := xs.foldl doQ a
theorem runQ_take (a : Ab) {xs : List Mq} {k : Nat} {x : Mq} (h : xs[k]? = some x) : runQ a (xs.take (k + 1)) = doQ (runQ a (xs.take k)) x := by
  obtain ⟨hk, rfl⟩ := List.getElem?_eq_some_iff.1 h
  unfold runQ
  rw [List.take_succ_eq_append_getElem hk, List.foldl_append]
  rfl

/-- Fields by rising numbers of 0 to 7. -/
def AbOK (a : Ab) : Prop := ∀ k, RiseF (a.D k) ∧ ∀ p ∈ a.D k, 0 ≤ p.1 ∧ p.1 < 8

def AbS (w : World) (O : Nat → Prop) (s gv gl gd : Nat) (a : Ab) (N : Nat) : Prop := StaS w O s gv gl gd a.V a.L a.D N

/-- This change is done as it should be. -/
def ChOK (x : Mq) : Prop := ∀ (O : Nat → Prop) (s gv gl gd N : Nat) (a : Ab) (w : World), AbS w O s gv gl gd a N → AbOK a → (x.c = 3 → (a.L x.k).length < 100) → (∀ k, w.heap.size ≤ k → O k) →
  Calls Tryz.prog 35 #[.pointer (some ⟨s, 0, none⟩), mV x.m] w fun e w' => e = .returned (.tuple #[]) ∧ AbS w' O s gv gl gd (doQ a x) (N + 1) ∧ Tch O w w'

theorem chOK_1 (k : K3) (f v : Int) : ChOK ⟨1, k, f, v⟩ := fun O s gv gl gd N a w h _ _ hO => by
  have := changeSet O s gv gl gd N a.V a.L a.D k f v w h hO
  simpa [Mq.m, doQ, AbS] using this
theorem chOK_3 (k : K3) (f v : Int) : ChOK ⟨3, k, f, v⟩ := fun O s gv gl gd N a w h _ hl hO => by
  have := changePush O s gv gl gd N a.V a.L a.D k f v w h hO (hl rfl)
  simpa [Mq.m, doQ, AbS] using this

/-- The lengths that hasRoom counts are those that the lists come to. -/
theorem room_step {L0 : K3 → List Int} {lg : K3 → Option Int} {a : Ab} {x : Mq} {xs : List Mq} (h : roomB L0 lg (x :: xs) = true) (hf : ∀ b, curL L0 lg b = ((a.L b).length : Int)) :
    (x.c = 3 → (a.L x.k).length < 100) ∧ roomB L0 (lgS L0 lg x) xs = true ∧ ∀ b, curL L0 (lgS L0 lg x) b = (((doQ a x).L b).length : Int) := by
  rw [roomB] at h
  by_cases hc : x.c = 3 ∧ 100 ≤ curL L0 lg x.k
  · rw [if_pos hc] at h; cases h
  · rw [if_neg hc] at h
    refine ⟨fun e => ?_, h, fun b => ?_⟩
    · have : ¬ 100 ≤ curL L0 lg x.k := fun hl => hc ⟨e, hl⟩
      rw [hf] at this
      omega
    · have hb := hf b
      have hk := hf x.k
      unfold curL at *
      unfold lgS doQ
      by_cases e3 : x.c = 3
      · simp only [e3, if_true, updK]
        by_cases e : b = x.k
        · subst e; simp [hk, curL, updR]
        · simp [e, hb, updR]
      · rw [if_neg e3]
        by_cases e4 : x.c = 4
        · simp only [e4, if_true, updK]
          by_cases e : b = x.k
          · subst e; simp [updR]
          · simp [e, hb, updR]
        · rw [if_neg e4]
          repeat' split
          all_goals first | exact hb | contradiction

structure DoI (w wr : World) (O : Nat → Prop) (s gv gl gd : Nat) (a : Ab) (N : Nat) (pa : Option Addr) (n : Nat) (xs : List Mq) (k : Nat) : Prop where
  st : AbS wr O s gv gl gd (runQ a (xs.take k)) (N + k)
  tch : Tch O w wr
  ms : Ms wr pa n (xs.map Mq.m)
  room : ∃ lg, roomB a.L lg (xs.drop k) = true ∧ ∀ b, curL a.L lg b = (((runQ a (xs.take k)).L b).length : Int)

theorem Ms.tch {S : Nat → Prop} {w w' : World} {pa : Option Addr} {c : Nat} {ms : List Mt} (h : Ms w pa c ms) (ht : Tch S w w') (hS : ∀ b o, pa = some ⟨b, o, none⟩ → ¬ S b) : Ms w' pa c ms := by
  refine ⟨h.1, fun h0 => ?_⟩
  obtain ⟨b, o, rfl, hc⟩ := h.2 h0
  refine ⟨b, o, rfl, fun i m hm => ?_⟩
  obtain ⟨c0, c1, c2, c3, c4, c5⟩ := hc i m hm
  have hb : w'.heap[b]? = w.heap[b]? := ht.block b (lt_of_cell c0) (hS b o rfl)
  refine ⟨?_, ?_, ?_, ?_, ?_, ?_⟩
  · rw [World.cell?_of_block (a := ⟨b, o + i * 6, none⟩) hb]; exact c0
  · rw [World.cell?_of_block (a := ⟨b, o + i * 6 + 1, none⟩) hb]; exact c1
  · rw [World.cell?_of_block (a := ⟨b, o + i * 6 + 2, none⟩) hb]; exact c2
  · rw [World.cell?_of_block (a := ⟨b, o + i * 6 + 3, none⟩) hb]; exact c3
  · rw [World.cell?_of_block (a := ⟨b, o + i * 6 + 4, none⟩) hb]; exact c4
  · rw [World.cell?_of_block (a := ⟨b, o + i * 6 + 5, none⟩) hb]; exact c5

set_option maxRecDepth 100000 in
set_option maxHeartbeats 1600000 in
/-- Do of changes that may be, and that there is room for. -/
theorem do_ok (O : Nat → Prop) (s gv gl gd N : Nat) (a : Ab) (pa : Option Addr) (n cc : Nat) (xs : List Mq) (w : World) (h : AbS w O s gv gl gd a N) (hL : ∀ k, (a.L k).length ≤ 100) (hm : Ms w pa n (xs.map Mq.m)) (hn : n ≤ 100000)
    (hO : ∀ k, w.heap.size ≤ k → O k) (hpa : ∀ b o, pa = some ⟨b, o, none⟩ → ¬ O b) (hch : ∀ x ∈ xs, ChOK x) (hab : ∀ k, AbOK (runQ a (xs.take k))) (hmay : (xs.map Mq.m).all mayB = true) (hroom : roomB a.L (fun _ => none) xs = true) :
    Calls Tryz.prog 19 #[.pointer (some ⟨s, 0, none⟩), .slice pa n cc] w fun e w' => e = .returned (.int .i64 0) ∧ AbS w' O s gv gl gd (runQ a xs) (N + n) ∧ Tch O w w' := by
  have HA := hide (allMay_any pa n cc (xs.map Mq.m) w hm hn)
  rw [hmay] at HA
  have HRM : Hid (∀ W, Below w.heap.size w W → Calls Tryz.prog 33 #[.pointer (some ⟨s, 0, none⟩), .slice pa n cc] W fun e w' => e = .returned (.bool true) ∧ Below W.heap.size W w') := fun W hb => by
    have := hasRoom_any O s gv gl gd N a.V a.L a.D pa n cc xs W (h.later hb) hL (hm.later hb (Nat.le_refl _)) hn
    rw [hroom] at this
    exact this
  have HCP : Hid (∀ W, Below w.heap.size w W → Calls Tryz.prog 34 #[.pointer (some ⟨s, 0, none⟩)] W fun e w' => e = .returned (.tuple #[]) ∧ w' = W) := fun W hb => stateComplete s gv gl gd W (h.later hb).obj
  have HLN : Hid (xs.length = n) := by have := hm.1; rw [List.length_map] at this; exact this
  have HI : Hid (∀ W, Below w.heap.size w W → DoI w W O s gv gl gd a N pa n xs 0) := fun W hb => ⟨h.later hb, Below.tch hb, hm.later hb (Nat.le_refl _), fun _ => none, hroom, fun b => rfl⟩
  have HO := hide hO
  have HPA := hide hpa
  have HCH := hide hch
  have HAB := hide hab
  clear h hm hO hpa hch hab hmay hroom hL
  go_enter Tryz.func19, Tryz.ntmps19
  go_wp2_with fail
  refine HA.out.mono ?_
  rintro e w1 ⟨rfl, hb1⟩
  have HB1 := hide hb1
  clear hb1 HA
  go_wp2_with fail
  refine (HRM.out _ HB1.out).mono ?_
  rintro e w2 ⟨rfl, hb2⟩
  have HB2 := hide (HB1.out.trans (hb2.mono HB1.out.size))
  clear hb2 HB1 HRM
  go_wp2_with fail
  refine (HCP.out _ HB2.out).mono ?_
  rintro e w3 ⟨rfl, rfl⟩
  have HI0 := hide (HI.out _ HB2.out)
  clear HCP HI HB2
  go_wp2
  go_loopw [23] (fun i wr => ∃ k : Nat, k ≤ n ∧ i = .int .i64 k ∧ Hid (DoI w wr O s gv gl gd a N pa n xs k)) (fun i _ => n - (intOf i).toNat)
  case atStart => exact ⟨0, by omega, rfl, HI0⟩
  case round =>
    clear HI0
    obtain ⟨k, hk, rfl, HD⟩ := hrel
    by_cases hlt : k < n
    · obtain ⟨x, hx⟩ : ∃ x, xs[k]? = some x := ⟨_, List.getElem?_eq_getElem (by rw [HLN.out]; exact hlt)⟩
      obtain ⟨lg, g1, g2⟩ := HD.out.room
      rw [dropMq hx] at g1
      obtain ⟨f1, f2, f3⟩ := room_step g1 g2
      have hbA := below_alloc wr (mtObj x.m) wr.heap.size (Nat.le_refl _)
      have HC : Hid (Calls Tryz.prog 35 #[.pointer (some ⟨s, 0, none⟩), mV x.m] (wr.alloc (mtObj x.m)) fun e w' => e = .returned (.tuple #[]) ∧ DoI w w' O s gv gl gd a N pa n xs (k + 1)) := by
        refine (HCH.out x (List.mem_of_getElem? hx) O s gv gl gd (N + k) _ _ (HD.out.st.later hbA) (HAB.out k) f1 (fun j hj => HO.out j (Nat.le_trans HD.out.tch.size (Nat.le_trans hbA.size hj)))).mono ?_
        rintro e w' ⟨r1, r2, r3⟩
        refine ⟨r1, ?_, (HD.out.tch.trans (Below.tch hbA)).trans r3, (HD.out.ms.later hbA (Nat.le_refl _)).tch r3 HPA.out, _, f2, ?_⟩
        · rw [runQ_take a hx]; exact r2
        · rw [runQ_take a hx]; exact f3
      obtain ⟨b, o, rfl, z0, z1, z2, z3, z4, z5⟩ := HD.out.ms.atQ hx
      clear HD hbA g1 g2 f1 f2 f3 hx
      obtain ⟨xc, xk, xf, xv⟩ := x
      unfold Mq.m at HC
      unfold mtObj mV at HC
      simp only at *
      go_wp2_with fail
      refine HC.out.mono ?_
      rintro e w4 ⟨rfl, hd⟩
      have HD1 := hide hd
      clear hd HC z0 z1 z2 z3 z4 z5
      go_wp2
      exact ⟨⟨k + 1, by omega, by simp, HD1⟩, by simp [intOf]; omega⟩
    · obtain rfl : k = n := by omega
      have e1 : xs.take k = xs := List.take_of_length_le (by have := HLN.out; omega)
      have HE : Hid (AbS wr O s gv gl gd (runQ a xs) (N + k) ∧ Tch O w wr) := ⟨by have := HD.out.st; rw [e1] at this; exact this, HD.out.tch⟩
      clear e1 HD
      go_wp2
      go_ret
      exact ⟨rfl, HE.out.1, HE.out.2⟩
end Go.Proofs.YtdogecaonlmalaaGreat

namespace Go.Proofs.YtdogecaonlmalaaGreat
open Go.RowKit Go.MapKept Go.ChangeMaps

theorem nodup_le {α : Type} [DecidableEq α] {a : List α} : ∀ {b : List α}, a.Nodup → (∀ x ∈ a, x ∈ b) → a.length ≤ b.length := by
  induction a with
  | nil => intro b _ _; exact Nat.zero_le _
  | cons x a ih =>
    intro b hn hs
    have hx := hs x (by simp)
    have h1 := List.nodup_cons.1 hn
    have h2 := ih (b := b.erase x) h1.2 (fun y hy => (List.mem_erase_of_ne (fun e => h1.1 (by rw [← e]; exact hy))).2 (hs y (List.mem_cons_of_mem _ hy)))
    rw [List.length_erase_of_mem hx] at h2
    have h3 : 0 < b.length := List.length_pos_of_mem hx
    rw [List.length_cons]
    omega

theorem k3Less_irr (a : K3) : k3Less a a = false := lessK_irr _
theorem RiseK.nodup {ks : List K3} (h : RiseK ks) : ks.Nodup := h.imp (fun {a b} hl e => by subst e; rw [k3Less_irr] at hl; cases hl)
theorem rise_eq {a : List K3} : ∀ {b : List K3}, RiseK a → RiseK b → (∀ k, k ∈ a ↔ k ∈ b) → a = b := by
  induction a with
  | nil =>
    intro b _ _ h
    cases b with
    | nil => rfl
    | cons y b => have := (h y).2 (by simp); simp at this
  | cons x a ih =>
    intro b ha hb h
    cases b with
    | nil => have := (h x).1 (by simp); simp at this
    | cons y b =>
      obtain ⟨hx, ha'⟩ := List.pairwise_cons.1 ha
      obtain ⟨hy, hb'⟩ := List.pairwise_cons.1 hb
      have e : x = y := by
        rcases List.mem_cons.1 ((h x).1 (by simp)) with e | e1
        · exact e
        · rcases List.mem_cons.1 ((h y).2 (by simp)) with e | e2
          · exact e.symm
          · have h1 := hy x e1
            have h2 := hx y e2
            have : k3Less x y = false := lessK_asym _ _ h1
            rw [h2] at this
            cases this
      subst e
      congr 1
      refine ih ha' hb' (fun k => ?_)
      have hk := h k
      rw [List.mem_cons, List.mem_cons] at hk
      constructor
      · intro hm
        rcases hk.1 (Or.inr hm) with e | e
        · subst e; have := hx _ hm; rw [k3Less_irr] at this; cases this
        · exact e
      · intro hm
        rcases hk.2 (Or.inr hm) with e | e
        · subst e; have := hy _ hm; rw [k3Less_irr] at this; cases this
        · exact e

/-- How many keys have something. -/
theorem VlS.klen {w : World} {O : Nat → Prop} {g N : Nat} {f : K3 → Option Int} (h : VlS w O g f N) {ks : List K3} (hn : ks.Nodup) (hk : ∀ k ∈ ks, f k ≠ none) : ks.length ≤ N := by
  obtain ⟨mo, l, c, h⟩ := h
  refine Nat.le_trans (nodup_le (b := l.map Ent.k) hn (fun k hm => ?_)) (by rw [List.length_map]; exact h.len)
  rw [atE_key, h.at' k]
  have := hk k hm
  cases hf : f k with
  | none => exact absurd hf this
  | some x => simp
theorem RmS.klen {α : Type} {T e : TypeId} {sz : Nat} {C : α → List Value} {w : World} {O : Nat → Prop} {g N : Nat} {f : K3 → List α} (h : RmS T e sz C w O g f N) {ks : List K3} (hn : ks.Nodup) (hk : ∀ k ∈ ks, f k ≠ []) : ks.length ≤ N := by
  obtain ⟨mo, l, c, h⟩ := h
  exact Nat.le_trans (nodup_le (b := l.map Ent.k) hn (fun k hm => (h.mem k).2 (hk k hm))) (by rw [List.length_map]; exact h.len)

/-- A cell: its key, its value, its list, its fields. -/
structure Cl where
  k : K3
  v : Option Int
  l : List Int
  d : List (Int × Int)

def Ab.at (a : Ab) (k : K3) : Cl := ⟨k, a.V k, a.L k, a.D k⟩
/-- The keys of a state's cells. -/
def Kof (a : Ab) (ks : List K3) : Prop := RiseK ks ∧ ∀ k, k ∈ ks ↔ (a.V k ≠ none ∨ a.L k ≠ [] ∨ a.D k ≠ [])
theorem Kof.not {a : Ab} {ks : List K3} (h : Kof a ks) {k : K3} (hk : k ∉ ks) : a.V k = none ∧ a.L k = [] ∧ a.D k = [] :=
  ⟨Classical.byContradiction fun e => hk ((h.2 k).2 (Or.inl e)), Classical.byContradiction fun e => hk ((h.2 k).2 (Or.inr (Or.inl e))), Classical.byContradiction fun e => hk ((h.2 k).2 (Or.inr (Or.inr e)))⟩
theorem Ab.at_keys (a : Ab) (ks : List K3) : (ks.map a.at).map Cl.k = ks := by
  rw [List.map_map]
  induction ks with
  | nil => rfl
  | cons x ks ih => rw [List.map_cons, ih]; rfl
theorem cells_eq {a b : Ab} {ks js : List K3} (ha : Kof a ks) (hb : Kof b js) : ks.map a.at = js.map b.at ↔ a = b := by
  constructor
  · intro h
    have e : ks = js := by rw [← a.at_keys ks, h, b.at_keys]
    subst e
    have hin : ∀ k, a.V k = b.V k ∧ a.L k = b.L k ∧ a.D k = b.D k := fun k => by
      by_cases hk : k ∈ ks
      · have := List.map_inj_left.1 h k hk
        unfold Ab.at at this
        rw [Cl.mk.injEq] at this
        exact this.2
      · have h1 := ha.not hk
        have h2 := hb.not hk
        exact ⟨(by rw [h1.1, h2.1]), (by rw [h1.2.1, h2.2.1]), (by rw [h1.2.2, h2.2.2])⟩
    obtain ⟨aV, aL, aD⟩ := a
    obtain ⟨bV, bL, bD⟩ := b
    simp only [Ab.mk.injEq]
    exact ⟨funext fun k => (hin k).1, funext fun k => (hin k).2.1, funext fun k => (hin k).2.2⟩
  · rintro rfl
    rw [rise_eq ha.1 hb.1 (fun k => (ha.2 k).trans (hb.2 k).symm)]

/-- A cell as it lies, with its list's row and its fields' row. -/
structure Cr where
  c : Cl
  la : Value
  da : Value
def crC (x : Cr) : List Value := [.int .i64 x.c.k.g, .int .i64 x.c.k.n, .int .i64 x.c.k.i, .bool x.c.v.isSome, .int .i64 (x.c.v.getD 0), x.la, x.da]
def crV (x : Cr) : Value := .agg #[.int .i64 x.c.k.g, .int .i64 x.c.k.n, .int .i64 x.c.k.i, .bool x.c.v.isSome, .int .i64 (x.c.v.getD 0), x.la, x.da]
def crO (x : Cr) : Obj := .cells #[.int .i64 x.c.k.g, .int .i64 x.c.k.n, .int .i64 x.c.k.i, .bool x.c.v.isSome, .int .i64 (x.c.v.getD 0), x.la, x.da] 65
/-- The two rows of a cell, made since B. -/
structure CrOK (w : World) (B : Nat) (x : Cr) : Prop where
  la : OwnI w B x.la x.c.l
  da : OwnF w B x.da x.c.d
theorem CrOK.one {w : World} {B : Nat} {x : Cr} (h : CrOK w B x) : x.la.oneCell' = true ∧ x.da.oneCell' = true := by
  obtain ⟨_, _, e1, _⟩ := RowI.slice h.la.row
  obtain ⟨_, _, e2, _⟩ := RowF.rd h.da.row
  rw [e1, e2]
  exact ⟨rfl, rfl⟩
theorem own_tch {α : Type} {e : TypeId} {sz : Nat} {C : α → List Value} {S : Nat → Prop} {a b : World} {B : Nat} {v : Value} {z : List α} (h : Tch S a b) (ho : a.ownsRow B e sz v z.length (z.flatMap C)) (hs : ∀ k, v.ownBlock = some k → ¬ S k) : b.ownsRow B e sz v z.length (z.flatMap C) := by
  obtain ⟨h1, h2⟩ := ho
  refine ⟨h1, ?_⟩
  rcases h2 with h2 | ⟨g, cap, cur, rfl, hg, hh, r⟩
  · exact Or.inl h2
  · exact Or.inr ⟨g, cap, cur, rfl, hg, h.old hh (hs g rfl), r⟩
theorem CrOK.tch {S : Nat → Prop} {w w' : World} {B : Nat} {x : Cr} (h : CrOK w B x) (ht : Tch S w w') (hS : ∀ k, S k → ∀ cur e, w.heap[k]? = some (.cells cur e (0, 0)) → e ≠ 2 ∧ e ≠ 43) : CrOK w' B x :=
  ⟨own_tch ht h.la (fun k hk hs => by
      obtain ⟨cur, hc⟩ := RowO.kind h.la.row hk
      exact (hS k hs _ _ hc).1 rfl), own_tch ht h.da (fun k hk hs => by
      obtain ⟨cur, hc⟩ := RowO.kind h.da.row hk
      exact (hS k hs _ _ hc).2 rfl)⟩
theorem CrOK.later {w w' : World} {B : Nat} {x : Cr} (h : CrOK w B x) (hb : Below w.heap.size w w') : CrOK w' B x :=
  h.tch (S := fun _ => False) (Below.tch hb) (fun _ e => e.elim)
theorem CrOK.mono {w : World} {B B' : Nat} {x : Cr} (h : CrOK w B x) (hB : B' ≤ B) : CrOK w B' x := ⟨row_mono h.la hB, row_mono h.da hB⟩

/-- A row of cells made since B. -/
structure OwnR (w : World) (B : Nat) (v : Value) (xs : List Cr) : Prop where
  row : w.ownsRow B 65 7 v xs.length (xs.flatMap crC)
  all : ∀ x ∈ xs, CrOK w B x
theorem OwnR.later {w w' : World} {B : Nat} {v : Value} {xs : List Cr} (h : OwnR w B v xs) (hb : Below w.heap.size w w') : OwnR w' B v xs :=
  ⟨own_tch (S := fun _ => False) (Below.tch hb) h.row (fun _ _ e => e), fun x hx => (h.all x hx).later hb⟩
theorem OwnR.nil (w : World) (B : Nat) : OwnR w B (.slice none 0 0) [] := ⟨World.ownsRow_nil _ _ _ _, fun x hx => by simp at hx⟩
theorem OwnR.mono {w : World} {B B' : Nat} {v : Value} {xs : List Cr} (h : OwnR w B v xs) (hB : B' ≤ B) : OwnR w B' v xs := ⟨row_mono h.row hB, fun x hx => (h.all x hx).mono hB⟩

theorem infoCr : (Tryz.prog.info? 65).map (fun i => (i.zero, i.size, i.bytes)) = some (some (.agg #[.int .i64 0, .int .i64 0, .int .i64 0, .bool false, .int .i64 0, .slice none 0 0, .slice none 0 0]), 7, 88) := by kernel_rfl

/-- append(own, cell). -/
theorem OwnR.app {w : World} {B : Nat} {v : Value} {l : List Cr} (h : OwnR w B v l) (q : Nat) (x : Cr) (hq : w.heap[q]? = some (crO x)) (hx : CrOK w B x) (hsz : l.length + 1 ≤ 1000000) (hB : B ≤ w.heap.size) :
    ∃ v' w', (∀ ty, (Builtin.append_ #[61, 61] ty #[v, .slice (some ⟨q, 0, none⟩) 1 1]).run Tryz.prog w = .ok v' w') ∧ OwnR w' B v' (l ++ [x]) ∧ w.grownBy w' v.ownBlock := by
  obtain ⟨i0, hi, hz0, hz1, hz2⟩ := info_parts infoCr
  obtain ⟨o1, o2⟩ := hx.one
  have hcell : ∀ j u, ([x].flatMap crC)[j]? = some u → w.cell? ((⟨q, 0, none⟩ : Addr).add j) = some u := by
    intro j u hj
    rw [add_none, Nat.zero_add]
    simp only [List.flatMap_cons, List.flatMap_nil, List.append_nil, crC] at hj
    match j, hj with
    | 0, hj => simp at hj; subst hj; simp [World.cell?, hq, crO]
    | 1, hj => simp at hj; subst hj; simp [World.cell?, hq, crO]
    | 2, hj => simp at hj; subst hj; simp [World.cell?, hq, crO]
    | 3, hj => simp at hj; subst hj; simp [World.cell?, hq, crO]
    | 4, hj => simp at hj; subst hj; simp [World.cell?, hq, crO]
    | 5, hj => simp at hj; subst hj; simp [World.cell?, hq, crO]
    | 6, hj => simp at hj; subst hj; simp [World.cell?, hq, crO]
    | j + 7, hj => simp at hj
  have hone : ∀ u ∈ [x].flatMap crC, u.oneCell' = true := by
    intro u hu
    simp only [List.flatMap_cons, List.flatMap_nil, List.append_nil, crC, List.mem_cons, List.not_mem_nil, or_false] at hu
    rcases hu with rfl | rfl | rfl | rfl | rfl | rfl | rfl
    · rfl
    · rfl
    · rfl
    · rfl
    · rfl
    · exact o1
    · exact o2
  have key := fun ty => run_append_own_at (P := Tryz.prog) w B 61 ty 65 i0 _ 7 88 Tryz.underlying61 hi hz0 hz1 hz2 rfl (by decide) v l.length (l.flatMap crC) h.row ⟨q, 0, none⟩ 1 1 ([x].flatMap crC) (by simp [crC]) hcell hone (by simp only [maxLen]; omega) (by omega) hB
  obtain ⟨v', w', hrun, h2, h3, _, h5⟩ := key 0
  have hS : ∀ k, some k = v.ownBlock → ∀ cur e, w.heap[k]? = some (.cells cur e (0, 0)) → e ≠ 2 ∧ e ≠ 43 := fun k hk cur e hc => by
    obtain ⟨cur', hc'⟩ := RowO.kind (C := crC) (row_mono h.row (Nat.zero_le _)) hk.symm
    rw [hc] at hc'
    have : e = 65 := by simp at hc'; exact hc'.2
    subst this
    exact ⟨by decide, by decide⟩
  refine ⟨v', w', fun ty => hrun, ⟨?_, fun y hy => ?_⟩, h3⟩
  · rw [List.flatMap_append, List.length_append]
    exact h2
  · rcases List.mem_append.1 hy with hy | hy
    · exact (h.all y hy).tch (Tch.of h3) hS
    · simp at hy; subst hy; exact hx.tch (Tch.of h3) hS

theorem flatR_len (xs : List Cr) : (xs.flatMap crC).length = xs.length * 7 := by
  induction xs with
  | nil => rfl
  | cons p z ih => rw [List.flatMap_cons, List.length_append, ih, List.length_cons]; simp [crC]; omega
/-- A cell read. -/
theorem OwnR.at {w : World} {B g cp n : Nat} {xs : List Cr} (h : OwnR w B (.slice (some ⟨g, 0, none⟩) n cp) xs) {j : Nat} {a : Cr} (hj : xs[j]? = some a) :
    w.cell? ⟨g, j * 7, none⟩ = some (.int .i64 a.c.k.g) ∧ w.cell? ⟨g, j * 7 + 1, none⟩ = some (.int .i64 a.c.k.n) ∧ w.cell? ⟨g, j * 7 + 2, none⟩ = some (.int .i64 a.c.k.i) ∧ w.cell? ⟨g, j * 7 + 3, none⟩ = some (.bool a.c.v.isSome) ∧ w.cell? ⟨g, j * 7 + 4, none⟩ = some (.int .i64 (a.c.v.getD 0)) ∧ w.cell? ⟨g, j * 7 + 5, none⟩ = some a.la ∧ w.cell? ⟨g, j * 7 + 6, none⟩ = some a.da := by
  have key : ∀ (z : List Cr) (j : Nat), z[j]? = some a → ∀ t, t < 7 → (z.flatMap crC)[j * 7 + t]? = (crC a)[t]? := by
    intro z
    induction z with
    | nil => intro j hj; simp at hj
    | cons x z ih =>
      intro j hj t ht
      rw [List.flatMap_cons]
      cases j with
      | zero => simp at hj; subst hj; rw [Nat.zero_mul, Nat.zero_add, List.getElem?_append_left (by simp [crC]; omega)]
      | succ j =>
        have := ih j (by simpa using hj) t ht
        rw [List.getElem?_append_right (by simp [crC]; omega), show (j + 1) * 7 + t - (crC x).length = j * 7 + t by simp [crC]; omega]
        exact this
  have cc : ∀ t u, t < 7 → (crC a)[t]? = some u → w.cell? ⟨g, j * 7 + t, none⟩ = some u := fun t u ht hu => by
    have := World.ownsRow.cells h.row (g := g) rfl _ _ ((key xs j hj t ht).trans hu)
    rw [add_none, Nat.zero_add] at this
    exact this
  exact ⟨cc 0 _ (by omega) rfl, cc 1 _ (by omega) rfl, cc 2 _ (by omega) rfl, cc 3 _ (by omega) rfl, cc 4 _ (by omega) rfl, cc 5 _ (by omega) rfl, cc 6 _ (by omega) rfl⟩
theorem OwnR.slice {w : World} {B : Nat} {v : Value} {xs : List Cr} (h : OwnR w B v xs) : (v = .slice none 0 0 ∧ xs = []) ∨ ∃ g cp, v = .slice (some ⟨g, 0, none⟩) xs.length cp ∧ xs.length ≤ cp ∧ cp ≤ maxLen ∧ B ≤ g ∧ g < w.heap.size := by
  rcases h.row.2 with ⟨rfl, hn⟩ | ⟨g, cap, cur, rfl, hg, hh, h1, h2, _, _⟩
  · exact Or.inl ⟨rfl, List.length_eq_zero_iff.1 hn⟩
  · exact Or.inr ⟨g, cap, rfl, h1, h2, hg, lt_of_heap hh⟩
end Go.Proofs.YtdogecaonlmalaaGreat

namespace Go.Proofs.YtdogecaonlmalaaGreat
open Go.RowKit Go.MapKept Go.ChangeMaps

theorem spot0 {w : World} {a : Addr} {v : Value} (h : w.cell? a = some v) : a.spot = none := World.cell?_spot h

/-- Where numbers lie that may be read. -/
theorem Rd.addr {w : World} {ao : Option Addr} {m c : Nat} {z : List Int} (h : Rd w ao m c z) (hm : 0 < m) : ∃ b o, ao = some ⟨b, o, none⟩ ∧ ∀ k x, z[k]? = some x → w.cell? ⟨b, o + k, none⟩ = some (.int .i64 x) := by
  cases ao with
  | none => have := (h.nil rfl).1; omega
  | some a =>
    have hc : ∀ k x, z[k]? = some x → w.cell? (a.add k) = some (.int .i64 x) := fun k x hk => h.cells a rfl k _ (by simp [hk])
    obtain ⟨b, o, sp⟩ := a
    have h0 := hc 0 _ (List.getElem?_eq_getElem (by have := h.len; omega))
    have hs : sp = none := by simpa [Addr.add] using World.cell?_spot h0
    subst hs
    exact ⟨b, o, rfl, fun k x hk => by have := hc k x hk; rwa [add_none] at this⟩
theorem flatF_at (z : List (Int × Int)) (j : Nat) (a : Int × Int) : z[j]? = some a → (z.flatMap fdC)[j * 2]? = some (.int .i64 a.1) ∧ (z.flatMap fdC)[j * 2 + 1]? = some (.int .i64 a.2) := by
  induction z generalizing j with
  | nil => intro hj; simp at hj
  | cons x z ih =>
    intro hj
    rw [List.flatMap_cons]
    cases j with
    | zero => simp at hj; subst hj; simp [fdC]
    | succ j =>
      have := ih j (by simpa using hj)
      rw [show (j + 1) * 2 = j * 2 + 2 by omega]
      constructor
      · rw [List.getElem?_append_right (by simp [fdC])]; simpa [fdC] using this.1
      · rw [List.getElem?_append_right (by simp [fdC])]; simpa [fdC] using this.2
theorem RdF.addr {w : World} {ao : Option Addr} {m c : Nat} {z : List (Int × Int)} (h : RdF w ao m c z) (hm : 0 < m) : ∃ b o, ao = some ⟨b, o, none⟩ ∧ ∀ k x, z[k]? = some x → w.cell? ⟨b, o + k * 2, none⟩ = some (.int .i64 x.1) ∧ w.cell? ⟨b, o + k * 2 + 1, none⟩ = some (.int .i64 x.2) := by
  cases ao with
  | none => have := (h.nil rfl).1; omega
  | some a =>
    have hc : ∀ k x, z[k]? = some x → w.cell? (a.add (k * 2)) = some (.int .i64 x.1) ∧ w.cell? (a.add (k * 2 + 1)) = some (.int .i64 x.2) := fun k x hk => ⟨h.cells a rfl _ _ (flatF_at z k x hk).1, h.cells a rfl _ _ (flatF_at z k x hk).2⟩
    obtain ⟨b, o, sp⟩ := a
    have h0 := (hc 0 _ (List.getElem?_eq_getElem (by have := h.len; omega))).1
    have hs : sp = none := by simpa [Addr.add] using World.cell?_spot h0
    subst hs
    exact ⟨b, o, rfl, fun k x hk => by have := hc k x hk; rw [add_none, add_none, ← Nat.add_assoc] at this; exact this⟩

theorem take_snoc {α : Type} {z : List α} {k : Nat} {x : α} (h : z[k]? = some x) : z.take (k + 1) = z.take k ++ [x] := by
  obtain ⟨hk, rfl⟩ := List.getElem?_eq_some_iff.1 h
  exact List.take_succ_eq_append_getElem hk
theorem ne_at {α : Type} {a b : List α} {k : Nat} {x y : α} (ha : a[k]? = some x) (hb : b[k]? = some y) (h : x ≠ y) : a ≠ b := by
  rintro rfl
  rw [ha] at hb
  exact h (Option.some.inj hb)

set_option maxRecDepth 100000 in
theorem equalI (a1 a2 : Option Addr) (n1 c1 n2 c2 : Nat) (z1 z2 : List Int) (w : World) (h1 : Rd w a1 n1 c1 z1) (h2 : Rd w a2 n2 c2 z2) (hn : n1 ≤ 100000) (hn2 : n2 ≤ 100000) :
    Calls Tryz.prog 71 #[.slice a1 n1 c1, .slice a2 n2 c2] w fun e w' => e = .returned (.bool (decide (z1 = z2))) ∧ Below w.heap.size w w' := by
  have l1 := h1.len
  have l2 := h2.len
  by_cases hne : n1 = n2
  · subst hne
    have H1 := hide h1
    have H2 := hide h2
    have HL1 := hide l1
    have HL2 := hide l2
    have hle1 := h1.le
    have hle2 := h2.le
    clear h1 h2 l1 l2
    go_enter Tryz.func71, Tryz.ntmps71
    go_wp2
    go_loopw [13, 5] (fun i _ wr => ∃ k : Nat, k ≤ n1 ∧ i = .int .i64 k ∧ Hid (z1.take k = z2.take k) ∧ Hid (Below w.heap.size w wr)) (fun i _ _ => n1 - (intOf i).toNat)
    case atStart => exact ⟨0, by omega, rfl, rfl, Below.refl _ _⟩
    case round =>
      obtain ⟨k, hk, rfl, HT, HB⟩ := hrel
      by_cases hlt : k < n1
      · obtain ⟨x, hx⟩ : ∃ x, z1[k]? = some x := ⟨_, List.getElem?_eq_getElem (by rw [HL1.out]; exact hlt)⟩
        obtain ⟨y, hy⟩ : ∃ y, z2[k]? = some y := ⟨_, List.getElem?_eq_getElem (by rw [HL2.out]; exact hlt)⟩
        obtain ⟨b1, o1, rfl, hc1⟩ := (H1.out.later HB.out).addr (by omega)
        obtain ⟨b2, o2, rfl, hc2⟩ := (H2.out.later HB.out).addr (by omega)
        have d1 := hc1 k x hx
        have d2 := hc2 k y hy
        have hlt1 : k < c1 := by omega
        have hlt2 : k < c2 := by omega
        by_cases hxy : x = y
        · subst hxy
          have HT1 : Hid (z1.take (k + 1) = z2.take (k + 1)) := by
            show _ = _
            rw [take_snoc hx, take_snoc hy, HT.out]
          clear hc1 hc2 hx hy HT H1 H2
          go_wp2
          go_quiet (fail)
          go_wp2
          exact ⟨⟨k + 1, by omega, by simp, HT1, below_drewN HB.out _⟩, by simp [intOf]; omega⟩
        · have hb : (x == y) = false := by simpa using hxy
          have HF : Hid (decide (z1 = z2) = false) := by
            show _ = _
            simpa using ne_at hx hy hxy
          clear hc1 hc2 hx hy HT H1 H2
          go_wp2
          go_quiet (fail)
          go_wp2
          go_ret
          exact ⟨ret_bool HF.out.symm, below_drewN HB.out _⟩
      · have HE : Hid (decide (z1 = z2) = true) := by
          have := HT.out
          rw [List.take_of_length_le (by have := HL1.out; omega), List.take_of_length_le (by have := HL2.out; omega)] at this
          show _ = _
          simpa using this
        clear HT
        go_wp2
        go_ret
        exact ⟨ret_bool HE.out.symm, HB.out⟩
  · have HF : Hid (decide (z1 = z2) = false) := by
      show _ = _
      have : z1 ≠ z2 := fun e => hne (by rw [← l1, ← l2, e])
      simpa using this
    have hb : ((n1 : Int) == (n2 : Int)) = false := by simp; omega
    clear h1 h2
    go_enter Tryz.func71, Tryz.ntmps71
    go_wp2
    go_ret
    exact ⟨ret_bool HF.out.symm, Below.refl _ _⟩

theorem neqF (a b c d : Int) (W : World) : (binOp .neq 43 (.agg #[.int .i64 a, .int .i64 b]) (.agg #[.int .i64 c, .int .i64 d])).run Tryz.prog W = .ok (.bool (!decide (a = c ∧ b = d))) W := by
  by_cases h1 : a = c
  · by_cases h2 : b = d
    · subst h1; subst h2; simp [go_sem]
    · have : (b == d) = false := by simpa using h2
      subst h1
      simp [go_sem, h2]
  · simp [go_sem, h1]

set_option maxRecDepth 100000 in
theorem equalF (a1 a2 : Option Addr) (n1 c1 n2 c2 : Nat) (z1 z2 : List (Int × Int)) (w : World) (h1 : RdF w a1 n1 c1 z1) (h2 : RdF w a2 n2 c2 z2) (hn : n1 ≤ 100000) (hn2 : n2 ≤ 100000) :
    Calls Tryz.prog 72 #[.slice a1 n1 c1, .slice a2 n2 c2] w fun e w' => e = .returned (.bool (decide (z1 = z2))) ∧ Below w.heap.size w w' := by
  have l1 := h1.len
  have l2 := h2.len
  by_cases hne : n1 = n2
  · subst hne
    have H1 := hide h1
    have H2 := hide h2
    have HL1 := hide l1
    have HL2 := hide l2
    have hle1 := h1.le
    have hle2 := h2.le
    clear h1 h2 l1 l2
    go_enter Tryz.func72, Tryz.ntmps72
    go_wp2
    go_loopw [13, 5] (fun i _ wr => ∃ k : Nat, k ≤ n1 ∧ i = .int .i64 k ∧ Hid (z1.take k = z2.take k) ∧ Hid (Below w.heap.size w wr)) (fun i _ _ => n1 - (intOf i).toNat)
    case atStart => exact ⟨0, by omega, rfl, rfl, Below.refl _ _⟩
    case round =>
      obtain ⟨k, hk, rfl, HT, HB⟩ := hrel
      by_cases hlt : k < n1
      · obtain ⟨x, hx⟩ : ∃ x, z1[k]? = some x := ⟨_, List.getElem?_eq_getElem (by rw [HL1.out]; exact hlt)⟩
        obtain ⟨y, hy⟩ : ∃ y, z2[k]? = some y := ⟨_, List.getElem?_eq_getElem (by rw [HL2.out]; exact hlt)⟩
        obtain ⟨b1, o1, rfl, hc1⟩ := (H1.out.later HB.out).addr (by omega)
        obtain ⟨b2, o2, rfl, hc2⟩ := (H2.out.later HB.out).addr (by omega)
        obtain ⟨d1, d1'⟩ := hc1 k x hx
        obtain ⟨d2, d2'⟩ := hc2 k y hy
        have hlt1 : k < c1 := by omega
        have hlt2 : k < c2 := by omega
        obtain ⟨xa, xb⟩ := x
        obtain ⟨ya, yb⟩ := y
        have hq := neqF xa xb ya yb
        simp only at d1 d1' d2 d2'
        by_cases hxy : xa = ya ∧ xb = yb
        · rw [decide_eq_true hxy] at hq
          have HT1 : Hid (z1.take (k + 1) = z2.take (k + 1)) := by
            show _ = _
            rw [take_snoc hx, take_snoc hy, HT.out, hxy.1, hxy.2]
          clear hc1 hc2 hx hy HT H1 H2 hxy
          simp only [Bool.not_true] at hq
          go_wp2
          go_quiet (fail)
          go_wp2
          exact ⟨⟨k + 1, by omega, by simp, HT1, below_drewN HB.out _⟩, by simp [intOf]; omega⟩
        · rw [decide_eq_false hxy] at hq
          have HF : Hid (decide (z1 = z2) = false) := by
            show _ = _
            simpa using ne_at hx hy (fun e => hxy (by simpa using e))
          clear hc1 hc2 hx hy HT H1 H2 hxy
          simp only [Bool.not_false] at hq
          go_wp2
          go_quiet (fail)
          go_wp2
          go_ret
          exact ⟨ret_bool HF.out.symm, below_drewN HB.out _⟩
      · have HE : Hid (decide (z1 = z2) = true) := by
          have := HT.out
          rw [List.take_of_length_le (by have := HL1.out; omega), List.take_of_length_le (by have := HL2.out; omega)] at this
          show _ = _
          simpa using this
        clear HT
        go_wp2
        go_ret
        exact ⟨ret_bool HE.out.symm, HB.out⟩
  · have HF : Hid (decide (z1 = z2) = false) := by
      show _ = _
      have : z1 ≠ z2 := fun e => hne (by rw [← l1, ← l2, e])
      simpa using this
    have hb : ((n1 : Int) == (n2 : Int)) = false := by simp; omega
    clear h1 h2
    go_enter Tryz.func72, Tryz.ntmps72
    go_wp2
    go_ret
    exact ⟨ret_bool HF.out.symm, Below.refl _ _⟩
end Go.Proofs.YtdogecaonlmalaaGreat

namespace Go.Proofs.YtdogecaonlmalaaGreat
open Go.RowKit Go.MapKept Go.ChangeMaps

/-- Keys that are told. -/
structure Tk (w : World) (B : Nat) (v : Value) (ks : List K3) (P : K3 → Prop) : Prop where
  mem : ∀ k, k ∈ ks ↔ P k
  rise : RiseK ks
  own : OwnK w B v ks
theorem Tk.later {w w' : World} {B : Nat} {v : Value} {ks : List K3} {P : K3 → Prop} (h : Tk w B v ks P) (hb : Below w.heap.size w w') : Tk w' B v ks P :=
  ⟨h.mem, h.rise, own_tch (C := k3C) (S := fun _ => False) (Below.tch hb) h.own (fun _ _ e => e)⟩
theorem OwnK.tch {S : Nat → Prop} {w w' : World} {B : Nat} {v : Value} {ks : List K3} (h : OwnK w B v ks) (ht : Tch S w w') (hS : ∀ k, v.ownBlock = some k → ¬ S k) : OwnK w' B v ks := own_tch (C := k3C) ht h hS
theorem OwnK.slice {w : World} {B : Nat} {v : Value} {ks : List K3} (h : OwnK w B v ks) : (v = .slice none 0 0 ∧ ks = []) ∨ ∃ g cp, v = .slice (some ⟨g, 0, none⟩) ks.length cp ∧ ks.length ≤ cp ∧ B ≤ g ∧ g < w.heap.size := by
  rcases h.2 with ⟨rfl, hn⟩ | ⟨g, cap, cur, rfl, hg, hh, h1, h2, _, _⟩
  · exact Or.inl ⟨rfl, List.length_eq_zero_iff.1 hn⟩
  · exact Or.inr ⟨g, cap, rfl, h1, hg, lt_of_heap hh⟩
theorem OwnK.shape {w : World} {B : Nat} {v : Value} {ks : List K3} (h : OwnK w B v ks) : ∃ pa cp, v = .slice pa ks.length cp := by
  rcases h.slice with ⟨rfl, rfl⟩ | ⟨g, cp, rfl, _⟩
  · exact ⟨_, _, rfl⟩
  · exact ⟨_, _, rfl⟩
/-- A key read. -/
theorem OwnK.at {w : World} {B g cp n : Nat} {ks : List K3} (h : OwnK w B (.slice (some ⟨g, 0, none⟩) n cp) ks) {j : Nat} {a : K3} (hj : ks[j]? = some a) :
    w.cell? ⟨g, j * 3, none⟩ = some (.int .i64 a.g) ∧ w.cell? ⟨g, j * 3 + 1, none⟩ = some (.int .i64 a.n) ∧ w.cell? ⟨g, j * 3 + 2, none⟩ = some (.int .i64 a.i) := by
  have key : ∀ (z : List K3) (j : Nat), z[j]? = some a → ∀ t, t < 3 → (z.flatMap k3C)[j * 3 + t]? = (k3C a)[t]? := by
    intro z
    induction z with
    | nil => intro j hj; simp at hj
    | cons x z ih =>
      intro j hj t ht
      rw [List.flatMap_cons]
      cases j with
      | zero => simp at hj; subst hj; rw [Nat.zero_mul, Nat.zero_add, List.getElem?_append_left (by simp [k3C]; omega)]
      | succ j =>
        have := ih j (by simpa using hj) t ht
        rw [List.getElem?_append_right (by simp [k3C]; omega), show (j + 1) * 3 + t - (k3C x).length = j * 3 + t by simp [k3C]; omega]
        exact this
  have cc : ∀ t u, t < 3 → (k3C a)[t]? = some u → w.cell? ⟨g, j * 3 + t, none⟩ = some u := fun t u ht hu => by
    have := World.ownsRow.cells h (g := g) rfl _ _ ((key ks j hj t ht).trans hu)
    rw [add_none, Nat.zero_add] at this
    exact this
  exact ⟨cc 0 _ (by omega) rfl, cc 1 _ (by omega) rfl, cc 2 _ (by omega) rfl⟩

/-- The keys gone through so far, in the map at m. -/
structure Gone (w wr : World) (m : Nat) (P : K3 → Prop) (l : List (Ent K3)) (c : Nat) : Prop where
  mp : Mp k3E wr m l c
  keys : ∀ k, k ∈ l.map Ent.k ↔ P k
  tch : Tch (fun j => j = m) w wr
theorem Gone.put {w wr W : World} {m : Nat} {P : K3 → Prop} {l : List (Ent K3)} {c : Nat} (h : Gone w wr m P l c) (hb : Below wr.heap.size wr W) (k : K3) :
    ∃ W2 l' c', (Instr.mapUpdate 105 (.map (some m)) (k3E k) (.agg #[])).run Tryz.prog W = .ok () W2 ∧ Gone w W2 m (fun b => P b ∨ b = k) l' c' := by
  have hm : Mp k3E W m l c := h.mp.at (hb.block _ h.mp.lt)
  obtain ⟨W2, l', c', h1, h2, h3, h4, h5⟩ := hm.upd2 k3Keyd undE k (.agg #[])
  refine ⟨W2, l', c', h1, h2, fun b => ?_, (h.tch.trans (Below.tch hb)).trans ((Tch.of h3).mono (fun j _ e => Option.some.inj e))⟩
  rw [atE_key, h4 b]
  by_cases e : b = k
  · rw [if_pos e]; simp [e]
  · rw [if_neg e, ← atE_key, h.keys b]; simp [e]

/-- The three lists of keys, as they lie in a row of three. -/
structure Three (w : World) (B q : Nat) (pa : Nat → Option Addr) (cp : Nat → Nat) (ka : Nat → List K3) : Prop where
  cell : ∀ i, i < 3 → w.cell? ⟨q, i, none⟩ = some (.slice (pa i) (ka i).length (cp i))
  own : ∀ i, i < 3 → OwnK w B (.slice (pa i) (ka i).length (cp i)) (ka i)
theorem Three.tch {w w' : World} {B m q : Nat} {pa : Nat → Option Addr} {cp : Nat → Nat} {ka : Nat → List K3} (h : Three w B q pa cp ka) (ht : Tch (fun j => j = m) w w') (hq : q ≠ m) (hB : m < B) : Three w' B q pa cp ka :=
  ⟨fun i hi => by
    have := h.cell i hi
    rw [World.cell?_of_block (ht.block _ (World.block_lt_of_cell? w _ this) hq)]; exact this,
   fun i hi => (h.own i hi).tch ht (fun k hk e => by
    have := (World.ownsRow.lt (h.own i hi) k hk).1
    omega)⟩
theorem three_of {w : World} {B : Nat} {v0 v1 v2 : Value} {k0 k1 k2 : List K3} (h0 : OwnK w B v0 k0) (h1 : OwnK w B v1 k1) (h2 : OwnK w B v2 k2) : ∃ (pa : Nat → Option Addr) (cp : Nat → Nat) (ka : Nat → List K3), ka 0 = k0 ∧ ka 1 = k1 ∧ ka 2 = k2 ∧ Three (w.alloc (.cells #[v0, v1, v2] 37)) B w.heap.size pa cp ka := by
  have hb := below_alloc w (.cells #[v0, v1, v2] 37) w.heap.size (Nat.le_refl _)
  obtain ⟨x0, x1, x2⟩ := cells_three (heap_alloc_new w (.cells #[v0, v1, v2] 37))
  have sh : ∀ {v : Value} {ks : List K3}, OwnK w B v ks → ∃ pa cp, v = .slice pa ks.length cp := fun {v ks} h => by
    rcases h.slice with ⟨rfl, rfl⟩ | ⟨g, cp, rfl, _⟩
    · exact ⟨_, _, rfl⟩
    · exact ⟨_, _, rfl⟩
  have l0 := h0.tch (S := fun _ => False) (Below.tch hb) (fun _ _ e => e)
  have l1 := h1.tch (S := fun _ => False) (Below.tch hb) (fun _ _ e => e)
  have l2 := h2.tch (S := fun _ => False) (Below.tch hb) (fun _ _ e => e)
  obtain ⟨p0, q0, rfl⟩ := sh h0
  obtain ⟨p1, q1, rfl⟩ := sh h1
  obtain ⟨p2, q2, rfl⟩ := sh h2
  refine ⟨fun i => if i = 0 then p0 else if i = 1 then p1 else p2, fun i => if i = 0 then q0 else if i = 1 then q1 else q2, fun i => if i = 0 then k0 else if i = 1 then k1 else k2, rfl, rfl, rfl, fun i hi => ?_, fun i hi => ?_⟩
  · rcases (show i = 0 ∨ i = 1 ∨ i = 2 by omega) with rfl | rfl | rfl
    · exact x0
    · exact x1
    · exact x2
  · rcases (show i = 0 ∨ i = 1 ∨ i = 2 by omega) with rfl | rfl | rfl
    · exact l0
    · exact l1
    · exact l2

set_option maxRecDepth 100000 in
set_option maxHeartbeats 2000000 in
/-- allKeys. -/
theorem allKeys_any (O : Nat → Prop) (s gv gl gd N : Nat) (a : Ab) (w : World) (h : AbS w O s gv gl gd a N) (hN : N ≤ 1000) :
    Calls Tryz.prog 36 #[.pointer (some ⟨s, 0, none⟩)] w fun e w' => ∃ v ks, e = .returned v ∧ Kof a ks ∧ ks.length ≤ 3 * N ∧ OwnK w' w.heap.size v ks ∧ Below w.heap.size w w' := by
  have hmm := @run_makeMap Tryz.prog
  have hb := below_alloc w (.map #[] 0) w.heap.size (Nat.le_refl _)
  have h1 := h.later hb
  obtain ⟨c0, c1, c2⟩ := sta_cells h1.obj
  have hm0 := Mp.new (E := k3E) w
  have hs0 : (w.alloc (.map #[] 0)).heap.size = w.heap.size + 1 := by simp
  have HB0 := hide hb
  clear hb h
  have H1 := hide h1
  have HM0' := hide hm0
  have HS0' := hide hs0
  have HC0 := hide (And.intro c0 (And.intro c1 c2))
  clear h1 hm0 hs0 c0 c1 c2
  go_enter Tryz.func36, Tryz.ntmps36
  go_wp2
  generalize w.alloc (.map #[] 0) = w0 at *
  have h1 := H1.out
  have hm0 := HM0'.out
  have hs0 := HS0'.out
  obtain ⟨c0, c1, c2⟩ := HC0.out
  clear H1 HM0' HS0' HC0
  have HS0 := hide hs0
  have HM0 := hide hm0
  have hD := (Below.refl w0.heap.size w0).drew
  have HC1 : Hid (Calls Tryz.prog 53 #[.pointer (some ⟨gv, 0, none⟩)] w0.drew fun e w' => ∃ p q k0, e = .returned (.slice p k0.length q) ∧ Hid (Tk w' w0.heap.size (.slice p k0.length q) k0 (fun k => a.V k ≠ none) ∧ k0.length ≤ N ∧ Below w0.heap.size w0 w') ∧
      (w'.cell? ⟨s, 0, none⟩ = some (.pointer (some ⟨gv, 0, none⟩)) ∧ w'.cell? ⟨s, 1, none⟩ = some (.pointer (some ⟨gl, 0, none⟩)) ∧ w'.cell? ⟨s, 2, none⟩ = some (.pointer (some ⟨gd, 0, none⟩)))) := by
    obtain ⟨X, hX⟩ := (h1.later hD).rdV
    refine (valueKeys X gv N a.V _ hX hN).mono ?_
    rintro e w' ⟨v0, k0, r1, r2, r3, r4, r5⟩
    obtain ⟨p, q, rfl⟩ := r4.shape
    have hT := hD.trans (r5.mono hD.size)
    have r2' : ∀ k, k ∈ k0 ↔ a.V k ≠ none := r2
    exact ⟨p, q, k0, r1, ⟨⟨r2', r3, row_mono r4 hD.size⟩, hX.klen r3.nodup (fun k hk => (r2' k).1 hk), hT⟩, same_cell hT c0, same_cell hT c1, same_cell hT c2⟩
  have HC2 : Hid (∀ W1, Below w0.heap.size w0 W1 → Calls Tryz.prog 54 #[.pointer (some ⟨gl, 0, none⟩)] W1 fun e w' => ∃ p q k1, e = .returned (.slice p k1.length q) ∧ Hid (Tk w' w0.heap.size (.slice p k1.length q) k1 (fun k => a.L k ≠ []) ∧ k1.length ≤ N ∧ Below W1.heap.size W1 w') ∧
      (w'.cell? ⟨s, 0, none⟩ = some (.pointer (some ⟨gv, 0, none⟩)) ∧ w'.cell? ⟨s, 1, none⟩ = some (.pointer (some ⟨gl, 0, none⟩)) ∧ w'.cell? ⟨s, 2, none⟩ = some (.pointer (some ⟨gd, 0, none⟩)))) := fun W1 hW => by
    obtain ⟨X, hX⟩ := (h1.later hW).rdL
    refine (listKeys X gl N a.L _ hX hN).mono ?_
    rintro e w' ⟨v0, k0, r1, r2, r3, r4, r5⟩
    obtain ⟨p, q, rfl⟩ := r4.shape
    have hT := hW.trans (r5.mono hW.size)
    exact ⟨p, q, k0, r1, ⟨⟨r2, r3, row_mono r4 hW.size⟩, hX.klen r3.nodup (fun k hk => (r2 k).1 hk), r5⟩, same_cell hT c0, same_cell hT c1, same_cell hT c2⟩
  have HC3 : Hid (∀ W1, Below w0.heap.size w0 W1 → Calls Tryz.prog 8 #[.pointer (some ⟨gd, 0, none⟩)] W1 fun e w' => ∃ p q k2, e = .returned (.slice p k2.length q) ∧ Hid (Tk w' w0.heap.size (.slice p k2.length q) k2 (fun k => a.D k ≠ []) ∧ k2.length ≤ N ∧ Below W1.heap.size W1 w') ∧
      (w'.cell? ⟨s, 0, none⟩ = some (.pointer (some ⟨gv, 0, none⟩)) ∧ w'.cell? ⟨s, 1, none⟩ = some (.pointer (some ⟨gl, 0, none⟩)) ∧ w'.cell? ⟨s, 2, none⟩ = some (.pointer (some ⟨gd, 0, none⟩)))) := fun W1 hW => by
    obtain ⟨X, hX⟩ := (h1.later hW).rdD
    refine (dictKeys X gd N a.D _ hX hN).mono ?_
    rintro e w' ⟨v0, k0, r1, r2, r3, r4, r5⟩
    obtain ⟨p, q, rfl⟩ := r4.shape
    have hT := hW.trans (r5.mono hW.size)
    exact ⟨p, q, k0, r1, ⟨⟨r2, r3, row_mono r4 hW.size⟩, hX.klen r3.nodup (fun k hk => (r2 k).1 hk), r5⟩, same_cell hT c0, same_cell hT c1, same_cell hT c2⟩
  clear h1 hD hs0 hm0
  go_region_held3 (fun w' => w'.cell? ⟨s, 0, none⟩ = some (.pointer (some ⟨gv, 0, none⟩)) ∧ w'.cell? ⟨s, 1, none⟩ = some (.pointer (some ⟨gl, 0, none⟩)) ∧ w'.cell? ⟨s, 2, none⟩ = some (.pointer (some ⟨gd, 0, none⟩))) (first | exact ⟨c0, c1, c2⟩ | exact k4 | exact k5 | exact k6 | go_keep)
    (first | (go_at_call 53; refine HC1.out.mono ?_; rintro e W1 ⟨pp0, q0, ks0, rfl, K1, k4⟩) | (go_at_call 54; refine (HC2.out _ K1.out.2.2).mono ?_; rintro e W2 ⟨pp1, q1, ks1, rfl, K2, k5⟩) | (go_at_call 8; refine (HC3.out _ (K1.out.2.2.trans (K2.out.2.2.mono K1.out.2.2.size))).mono ?_; rintro e W3 ⟨pp2, q2, ks2, rfl, K3, k6⟩))
  all_goals
    clear HC1 HC2 HC3 c0 c1 c2 k4 k5 k6
    have t0 := (K1.out.1.later K2.out.2.2).later K3.out.2.2
    have t1 := K2.out.1.later K3.out.2.2
    have t2 := K3.out.1
    have hB3 := K1.out.2.2.trans ((K2.out.2.2.trans (K3.out.2.2.mono K2.out.2.2.size)).mono K1.out.2.2.size)
    obtain ⟨pa, cp, ka, e0, e1, e2, h3⟩ := three_of t0.own t1.own t2.own
    have hb4 := below_alloc W3 (.cells #[.slice pp0 ks0.length q0, .slice pp1 ks1.length q1, .slice pp2 ks2.length q2] 37) W3.heap.size (Nat.le_refl _)
    have hB4 := hB3.trans (hb4.mono hB3.size)
    have HM4 := hide (HM0.out.later hB4 (Nat.le_refl _))
    have HBW := hide (HB0.out.trans (hB4.mono HB0.out.size))
    have HMEM : Hid (∀ k, (∃ j, j < 3 ∧ k ∈ ka j) ↔ (a.V k ≠ none ∨ a.L k ≠ [] ∨ a.D k ≠ [])) := fun k => by
      rw [← t0.mem k, ← t1.mem k, ← t2.mem k, ← e0, ← e1, ← e2]
      constructor
      · rintro ⟨j, hj, hm⟩
        rcases (show j = 0 ∨ j = 1 ∨ j = 2 by omega) with rfl | rfl | rfl
        · exact Or.inl hm
        · exact Or.inr (Or.inl hm)
        · exact Or.inr (Or.inr hm)
      · rintro (hm | hm | hm)
        · exact ⟨0, by omega, hm⟩
        · exact ⟨1, by omega, hm⟩
        · exact ⟨2, by omega, hm⟩
    have HLEN : Hid ((ka 0).length ≤ N ∧ (ka 1).length ≤ N ∧ (ka 2).length ≤ N) := by
      rw [e0, e1, e2]; exact ⟨K1.out.2.1, K2.out.2.1, K3.out.2.1⟩
    have hqm : W3.heap.size ≠ w.heap.size := by have := hB3.size; have := HS0.out; omega
    have HT3 := hide h3
    have HBm : Hid (w.heap.size < w0.heap.size) := by show _ < _; have := HS0.out; omega
    clear t0 t1 t2 e0 e1 e2 h3 hb4 hB4 hB3 K1 K2 K3 HM0 HB0 HS0
    go_wp2_with fail
    generalize W3.alloc (.cells #[.slice pp0 ks0.length q0, .slice pp1 ks1.length q1, .slice pp2 ks2.length q2] 37) = W4 at *
    generalize W3.heap.size = q at *
    have HG0 : Hid (Gone W4 W4 w.heap.size (fun k => ∃ j, j < 0 ∧ k ∈ ka j) [] 0) := ⟨HM4.out, fun k => by simp, Below.tch (Below.refl _ _)⟩
    go_loopw [26] (fun i wr => ∃ (n : Nat) (l : List (Ent K3)) (c : Nat), n ≤ 3 ∧ i = .int .i64 n ∧ Hid (Gone W4 wr w.heap.size (fun k => ∃ j, j < n ∧ k ∈ ka j) l c)) (fun i _ => 3 - (intOf i).toNat)
    case atStart => exact ⟨0, _, _, by omega, rfl, HG0⟩
    case round =>
      clear HG0
      obtain ⟨n, l, c, hn, rfl, HG⟩ := hrel
      by_cases hlt : n < 3
      · have hT := HT3.out.tch HG.out.tch hqm HBm.out
        have hcell := hT.cell n hlt
        have HG1 : Hid (Gone W4 wr w.heap.size (fun k => (∃ j, j < n ∧ k ∈ ka j) ∨ k ∈ (ka n).take 0) l c) := ⟨HG.out.mp, fun k => by rw [HG.out.keys k]; simp, HG.out.tch⟩
        have hle : (ka n).length ≤ 1000 := by
          rcases (show n = 0 ∨ n = 1 ∨ n = 2 by omega) with rfl | rfl | rfl
          · have := HLEN.out.1; omega
          · have := HLEN.out.2.1; omega
          · have := HLEN.out.2.2; omega
        clear hT HG
        go_wp2_with fail
        go_loopw [32] (fun i wq => ∃ (n2 : Nat) (l2 : List (Ent K3)) (c2 : Nat), n2 ≤ (ka n).length ∧ i = .int .i64 n2 ∧ Hid (Gone W4 wq w.heap.size (fun k => (∃ j, j < n ∧ k ∈ ka j) ∨ k ∈ (ka n).take n2) l2 c2)) (fun i _ => (ka n).length - (intOf i).toNat)
        case atStart => exact ⟨0, _, _, by omega, rfl, HG1⟩
        case round =>
          clear HG1
          obtain ⟨n2, l2, c2, hn2, rfl, HG⟩ := hrel
          by_cases hlt2 : n2 < (ka n).length
          · have hT := HT3.out.tch HG.out.tch hqm HBm.out
            obtain ⟨x, hx⟩ : ∃ x, (ka n)[n2]? = some x := ⟨_, List.getElem?_eq_getElem hlt2⟩
            have ho := hT.own n hlt
            obtain ⟨g, e, hcp⟩ : ∃ g, pa n = some ⟨g, 0, none⟩ ∧ (ka n).length ≤ cp n := by
              rcases ho.slice with ⟨_, e⟩ | ⟨g, cp', e, h1, _⟩
              · rw [e] at hlt2; simp at hlt2
              · simp at e; exact ⟨g, e.1, by omega⟩
            rw [e] at ho
            obtain ⟨z0, z1, z2⟩ := ho.at hx
            obtain ⟨W5, l5, c5, hup, hG5⟩ := HG.out.put (below_alloc wr (k3O x) wr.heap.size (Nat.le_refl _)) x
            have HG5 : Hid (Gone W4 W5 w.heap.size (fun k => (∃ j, j < n ∧ k ∈ ka j) ∨ k ∈ (ka n).take (n2 + 1)) l5 c5) := ⟨hG5.mp, fun k => by
              rw [hG5.keys k, take_snoc hx, List.mem_append, List.mem_singleton, or_assoc], hG5.tch⟩
            rw [e]
            clear hT ho HG hG5 hx e
            unfold k3O k3E at *
            go_wp2
            exact ⟨⟨n2 + 1, _, _, by omega, by simp, HG5⟩, by simp [intOf]; omega⟩
          · have HGn : Hid (Gone W4 wr w.heap.size (fun k => ∃ j, j < n + 1 ∧ k ∈ ka j) l2 c2) := ⟨HG.out.mp, fun k => by
              rw [HG.out.keys k, List.take_of_length_le (by omega)]
              constructor
              · rintro (⟨j, hj, hm⟩ | hm)
                · exact ⟨j, by omega, hm⟩
                · exact ⟨n, by omega, hm⟩
              · rintro ⟨j, hj, hm⟩
                by_cases e : j = n
                · subst e; exact Or.inr hm
                · exact Or.inl ⟨j, by omega, hm⟩, HG.out.tch⟩
            clear HG
            go_wp2
            exact ⟨⟨n + 1, _, _, by omega, by simp, HGn⟩, by simp [intOf]; omega⟩
      · obtain rfl : n = 3 := by omega
        have hll : l.length ≤ 3 * N := by
          have := nodup_le (a := l.map Ent.k) (b := ka 0 ++ (ka 1 ++ ka 2)) HG.out.mp.keys (fun k hk => by
            obtain ⟨j, hj, hm⟩ := (HG.out.keys k).1 hk
            rcases (show j = 0 ∨ j = 1 ∨ j = 2 by omega) with rfl | rfl | rfl
            · exact List.mem_append_left _ hm
            · exact List.mem_append_right _ (List.mem_append_left _ hm)
            · exact List.mem_append_right _ (List.mem_append_right _ hm))
          simp only [List.length_map, List.length_append] at this
          have := HLEN.out
          omega
        have HBE := hide (HBW.out.trans (HG.out.tch.below (fun k hk e => by omega) HBW.out.size))
        have HSR := hide (sortedE w.heap.size l c wr HG.out.mp (by omega))
        have HKM : Hid (∀ k, k ∈ l.map Ent.k ↔ (a.V k ≠ none ∨ a.L k ≠ [] ∨ a.D k ≠ [])) := fun k => (HG.out.keys k).trans (HMEM.out k)
        have HLL := hide hll
        clear HG hll HMEM HT3 HLEN HM4
        go_wp2_with fail
        refine HSR.out.mono ?_
        rintro e W6 ⟨v, ks, rfl, k1, k2, k3, k4⟩
        have H1 : Hid (Kof a ks ∧ ks.length ≤ 3 * N ∧ OwnK W6 w.heap.size v ks ∧ Below w.heap.size w W6) := ⟨⟨k2, fun k => (k1.mem_iff).trans (HKM.out k)⟩, by have := k1.length_eq; rw [List.length_map] at this; have := HLL.out; omega, row_mono k3 HBE.out.size, HBE.out.trans (k4.mono HBE.out.size)⟩
        clear k1 k2 k3 k4 HSR HBE HBW
        go_wp2
        go_ret
        exact ⟨v, ks, rfl, H1.out⟩
end Go.Proofs.YtdogecaonlmalaaGreat

namespace Go.Proofs.YtdogecaonlmalaaGreat
open Go.RowKit Go.MapKept Go.ChangeMaps

def cObj (a0 a1 a2 a3 a4 a5 a6 : Value) : Obj := .cells #[a0, a1, a2, a3, a4, a5, a6] 65 (0, 0)
theorem c_cells {w : World} {g : Nat} {a0 a1 a2 a3 a4 a5 a6 : Value} (h : w.heap[g]? = some (cObj a0 a1 a2 a3 a4 a5 a6)) :
    w.cell? ⟨g, 0, none⟩ = some a0 ∧ w.cell? ⟨g, 1, none⟩ = some a1 ∧ w.cell? ⟨g, 2, none⟩ = some a2 ∧ w.cell? ⟨g, 3, none⟩ = some a3 ∧ w.cell? ⟨g, 4, none⟩ = some a4 ∧ w.cell? ⟨g, 5, none⟩ = some a5 ∧ w.cell? ⟨g, 6, none⟩ = some a6 := by
  refine ⟨?_, ?_, ?_, ?_, ?_, ?_, ?_⟩ <;> simp [World.cell?, h, cObj]
theorem c_free {w : World} {g : Nat} {a0 a1 a2 a3 a4 a5 a6 : Value} (h : w.heap[g]? = some (cObj a0 a1 a2 a3 a4 a5 a6)) (j : Nat) : w.frozen? ⟨g, j, none⟩ = false := by
  simp [World.frozen?, h, cObj]

theorem c_set0 {w : World} {g : Nat} {a0 a1 a2 a3 a4 a5 a6 : Value} (h : w.heap[g]? = some (cObj a0 a1 a2 a3 a4 a5 a6)) (x : Value) : (w.setCell ⟨g, 0, none⟩ x).heap[g]? = some (cObj x a1 a2 a3 a4 a5 a6) := by
  obtain ⟨hlt, he⟩ := Array.getElem?_eq_some_iff.1 h
  simp [World.setCell, Array.getElem_modify, hlt, he, cObj]

theorem c_set1 {w : World} {g : Nat} {a0 a1 a2 a3 a4 a5 a6 : Value} (h : w.heap[g]? = some (cObj a0 a1 a2 a3 a4 a5 a6)) (x : Value) : (w.setCell ⟨g, 1, none⟩ x).heap[g]? = some (cObj a0 x a2 a3 a4 a5 a6) := by
  obtain ⟨hlt, he⟩ := Array.getElem?_eq_some_iff.1 h
  simp [World.setCell, Array.getElem_modify, hlt, he, cObj]

theorem c_set2 {w : World} {g : Nat} {a0 a1 a2 a3 a4 a5 a6 : Value} (h : w.heap[g]? = some (cObj a0 a1 a2 a3 a4 a5 a6)) (x : Value) : (w.setCell ⟨g, 2, none⟩ x).heap[g]? = some (cObj a0 a1 x a3 a4 a5 a6) := by
  obtain ⟨hlt, he⟩ := Array.getElem?_eq_some_iff.1 h
  simp [World.setCell, Array.getElem_modify, hlt, he, cObj]

theorem c_set3 {w : World} {g : Nat} {a0 a1 a2 a3 a4 a5 a6 : Value} (h : w.heap[g]? = some (cObj a0 a1 a2 a3 a4 a5 a6)) (x : Value) : (w.setCell ⟨g, 3, none⟩ x).heap[g]? = some (cObj a0 a1 a2 x a4 a5 a6) := by
  obtain ⟨hlt, he⟩ := Array.getElem?_eq_some_iff.1 h
  simp [World.setCell, Array.getElem_modify, hlt, he, cObj]

theorem c_set4 {w : World} {g : Nat} {a0 a1 a2 a3 a4 a5 a6 : Value} (h : w.heap[g]? = some (cObj a0 a1 a2 a3 a4 a5 a6)) (x : Value) : (w.setCell ⟨g, 4, none⟩ x).heap[g]? = some (cObj a0 a1 a2 a3 x a5 a6) := by
  obtain ⟨hlt, he⟩ := Array.getElem?_eq_some_iff.1 h
  simp [World.setCell, Array.getElem_modify, hlt, he, cObj]

theorem c_set5 {w : World} {g : Nat} {a0 a1 a2 a3 a4 a5 a6 : Value} (h : w.heap[g]? = some (cObj a0 a1 a2 a3 a4 a5 a6)) (x : Value) : (w.setCell ⟨g, 5, none⟩ x).heap[g]? = some (cObj a0 a1 a2 a3 a4 x a6) := by
  obtain ⟨hlt, he⟩ := Array.getElem?_eq_some_iff.1 h
  simp [World.setCell, Array.getElem_modify, hlt, he, cObj]

theorem c_set6 {w : World} {g : Nat} {a0 a1 a2 a3 a4 a5 a6 : Value} (h : w.heap[g]? = some (cObj a0 a1 a2 a3 a4 a5 a6)) (x : Value) : (w.setCell ⟨g, 6, none⟩ x).heap[g]? = some (cObj a0 a1 a2 a3 a4 a5 x) := by
  obtain ⟨hlt, he⟩ := Array.getElem?_eq_some_iff.1 h
  simp [World.setCell, Array.getElem_modify, hlt, he, cObj]

theorem set7 {w : World} {g : Nat} {a0 a1 a2 a3 a4 a5 a6 : Value} (h : w.heap[g]? = some (cObj a0 a1 a2 a3 a4 a5 a6)) (b0 b1 b2 b3 b4 b5 b6 : Value) :
    (((((((w.setCell ⟨g, 0, none⟩ b0).setCell ⟨g, 1, none⟩ b1).setCell ⟨g, 2, none⟩ b2).setCell ⟨g, 3, none⟩ b3).setCell ⟨g, 4, none⟩ b4).setCell ⟨g, 5, none⟩ b5).setCell ⟨g, 6, none⟩ b6).heap[g]? = some (cObj b0 b1 b2 b3 b4 b5 b6) ∧ Tch (fun j => j = g) w (((((((w.setCell ⟨g, 0, none⟩ b0).setCell ⟨g, 1, none⟩ b1).setCell ⟨g, 2, none⟩ b2).setCell ⟨g, 3, none⟩ b3).setCell ⟨g, 4, none⟩ b4).setCell ⟨g, 5, none⟩ b5).setCell ⟨g, 6, none⟩ b6) := by
  refine ⟨c_set6 (c_set5 (c_set4 (c_set3 (c_set2 (c_set1 (c_set0 h b0) b1) b2) b3) b4) b5) b6, ?_⟩
  have s : ∀ (w : World) (j : Nat) (b : Value), Tch (fun j => j = g) w (w.setCell ⟨g, j, none⟩ b) := fun w j b => (Tch.of (grown_setCell w g j b)).mono (fun k _ e => Option.some.inj e)
  exact (((((((s w 0 b0).trans (s _ 1 b1)).trans (s _ 2 b2)).trans (s _ 3 b3)).trans (s _ 4 b4)).trans (s _ 5 b5)).trans (s _ 6 b6))


theorem boxed_old {w w' : World} {q : Nat} {o : Obj} (h : w.heap[q]? = some o) (hb : Below w.heap.size w w') : w'.heap[q]? = some o := (hb.block q (lt_of_heap h)).trans h

/-- What a cell's making keeps: the state's parts, the key, the cell that is to be filled. -/
structure Kp (w : World) (s gv gl gd q r : Nat) (k : K3) : Prop where
  p0 : w.cell? ⟨s, 0, none⟩ = some (.pointer (some ⟨gv, 0, none⟩))
  p1 : w.cell? ⟨s, 1, none⟩ = some (.pointer (some ⟨gl, 0, none⟩))
  p2 : w.cell? ⟨s, 2, none⟩ = some (.pointer (some ⟨gd, 0, none⟩))
  k0 : w.cell? ⟨q, 0, none⟩ = some (.int .i64 k.g)
  k1 : w.cell? ⟨q, 1, none⟩ = some (.int .i64 k.n)
  k2 : w.cell? ⟨q, 2, none⟩ = some (.int .i64 k.i)
  r : w.heap[r]? = some (cObj (.int .i64 0) (.int .i64 0) (.int .i64 0) (.bool false) (.int .i64 0) (.slice none 0 0) (.slice none 0 0))
theorem Kp.later {w w' : World} {s gv gl gd q r : Nat} {k : K3} (h : Kp w s gv gl gd q r k) (hb : Below w.heap.size w w') : Kp w' s gv gl gd q r k :=
  ⟨same_cell hb h.p0, same_cell hb h.p1, same_cell hb h.p2, same_cell hb h.k0, same_cell hb h.k1, same_cell hb h.k2, boxed_old h.r hb⟩
theorem Kp.six {w' : World} {s gv gl gd q r : Nat} {k : K3} (h : Kp w' s gv gl gd q r k) : w'.cell? ⟨s, 0, none⟩ = some (.pointer (some ⟨gv, 0, none⟩)) ∧ w'.cell? ⟨s, 1, none⟩ = some (.pointer (some ⟨gl, 0, none⟩)) ∧ w'.cell? ⟨s, 2, none⟩ = some (.pointer (some ⟨gd, 0, none⟩)) ∧ w'.cell? ⟨q, 0, none⟩ = some (.int .i64 k.g) ∧ w'.cell? ⟨q, 1, none⟩ = some (.int .i64 k.n) ∧ w'.cell? ⟨q, 2, none⟩ = some (.int .i64 k.i) :=
  ⟨h.p0, h.p1, h.p2, h.k0, h.k1, h.k2⟩
theorem Kp.seven {w' : World} {s gv gl gd q r : Nat} {k : K3} (h : Kp w' s gv gl gd q r k) : w'.cell? ⟨r, 0, none⟩ = some (.int .i64 0) ∧ w'.cell? ⟨r, 1, none⟩ = some (.int .i64 0) ∧ w'.cell? ⟨r, 2, none⟩ = some (.int .i64 0) ∧ w'.cell? ⟨r, 3, none⟩ = some (.bool false) ∧ w'.cell? ⟨r, 4, none⟩ = some (.int .i64 0) ∧ w'.cell? ⟨r, 5, none⟩ = some (.slice none 0 0) ∧ w'.cell? ⟨r, 6, none⟩ = some (.slice none 0 0) ∧ (∀ j, w'.frozen? ⟨r, j, none⟩ = false) :=
  let c := c_cells h.r
  ⟨c.1, c.2.1, c.2.2.1, c.2.2.2.1, c.2.2.2.2.1, c.2.2.2.2.2.1, c.2.2.2.2.2.2, c_free h.r⟩

theorem keep7 {w : World} {r : Nat} {p : Addr} (h : p.block ≠ r) (b0 b1 b2 b3 b4 b5 b6 : Value) : (((((((w.setCell ⟨r, 0, none⟩ b0).setCell ⟨r, 1, none⟩ b1).setCell ⟨r, 2, none⟩ b2).setCell ⟨r, 3, none⟩ b3).setCell ⟨r, 4, none⟩ b4).setCell ⟨r, 5, none⟩ b5).setCell ⟨r, 6, none⟩ b6).cell? p = w.cell? p := by
  refine World.cell?_of_block ?_
  have s : ∀ (w : World) (j : Nat) (b : Value), (w.setCell ⟨r, j, none⟩ b).heap[p.block]? = w.heap[p.block]? := fun w j b => Below.heap_setCell _ _ _ _ (fun e => h e)
  rw [s, s, s, s, s, s, s]
theorem keep6 {w : World} {s gv gl gd q r : Nat} {k : K3} (hs : s ≠ r) (hq : q ≠ r) (b0 b1 b2 b3 b4 b5 b6 : Value) (h : w.cell? ⟨s, 0, none⟩ = some (.pointer (some ⟨gv, 0, none⟩)) ∧ w.cell? ⟨s, 1, none⟩ = some (.pointer (some ⟨gl, 0, none⟩)) ∧ w.cell? ⟨s, 2, none⟩ = some (.pointer (some ⟨gd, 0, none⟩)) ∧ w.cell? ⟨q, 0, none⟩ = some (.int .i64 k.g) ∧ w.cell? ⟨q, 1, none⟩ = some (.int .i64 k.n) ∧ w.cell? ⟨q, 2, none⟩ = some (.int .i64 k.i)) :
    (((((((w.setCell ⟨r, 0, none⟩ b0).setCell ⟨r, 1, none⟩ b1).setCell ⟨r, 2, none⟩ b2).setCell ⟨r, 3, none⟩ b3).setCell ⟨r, 4, none⟩ b4).setCell ⟨r, 5, none⟩ b5).setCell ⟨r, 6, none⟩ b6).cell? ⟨s, 0, none⟩ = some (.pointer (some ⟨gv, 0, none⟩)) ∧ (((((((w.setCell ⟨r, 0, none⟩ b0).setCell ⟨r, 1, none⟩ b1).setCell ⟨r, 2, none⟩ b2).setCell ⟨r, 3, none⟩ b3).setCell ⟨r, 4, none⟩ b4).setCell ⟨r, 5, none⟩ b5).setCell ⟨r, 6, none⟩ b6).cell? ⟨s, 1, none⟩ = some (.pointer (some ⟨gl, 0, none⟩)) ∧ (((((((w.setCell ⟨r, 0, none⟩ b0).setCell ⟨r, 1, none⟩ b1).setCell ⟨r, 2, none⟩ b2).setCell ⟨r, 3, none⟩ b3).setCell ⟨r, 4, none⟩ b4).setCell ⟨r, 5, none⟩ b5).setCell ⟨r, 6, none⟩ b6).cell? ⟨s, 2, none⟩ = some (.pointer (some ⟨gd, 0, none⟩)) ∧ (((((((w.setCell ⟨r, 0, none⟩ b0).setCell ⟨r, 1, none⟩ b1).setCell ⟨r, 2, none⟩ b2).setCell ⟨r, 3, none⟩ b3).setCell ⟨r, 4, none⟩ b4).setCell ⟨r, 5, none⟩ b5).setCell ⟨r, 6, none⟩ b6).cell? ⟨q, 0, none⟩ = some (.int .i64 k.g) ∧ (((((((w.setCell ⟨r, 0, none⟩ b0).setCell ⟨r, 1, none⟩ b1).setCell ⟨r, 2, none⟩ b2).setCell ⟨r, 3, none⟩ b3).setCell ⟨r, 4, none⟩ b4).setCell ⟨r, 5, none⟩ b5).setCell ⟨r, 6, none⟩ b6).cell? ⟨q, 1, none⟩ = some (.int .i64 k.n) ∧ (((((((w.setCell ⟨r, 0, none⟩ b0).setCell ⟨r, 1, none⟩ b1).setCell ⟨r, 2, none⟩ b2).setCell ⟨r, 3, none⟩ b3).setCell ⟨r, 4, none⟩ b4).setCell ⟨r, 5, none⟩ b5).setCell ⟨r, 6, none⟩ b6).cell? ⟨q, 2, none⟩ = some (.int .i64 k.i) := by
  obtain ⟨h0, h1, h2, h3, h4, h5⟩ := h
  have a := fun (p : Addr) (hp : p.block ≠ r) => keep7 (w := w) hp b0 b1 b2 b3 b4 b5 b6
  exact ⟨(a _ hs).trans h0, (a _ hs).trans h1, (a _ hs).trans h2, (a _ hq).trans h3, (a _ hq).trans h4, (a _ hq).trans h5⟩

set_option maxRecDepth 100000 in
set_option maxHeartbeats 4000000 in
/-- One cell. -/
theorem stateCell (O : Nat → Prop) (s gv gl gd N : Nat) (a : Ab) (k : K3) (w : World) (h : AbS w O s gv gl gd a N) (hl : (a.L k).length ≤ 100) (hd : (a.D k).length ≤ 100) :
    Calls Tryz.prog 37 #[.pointer (some ⟨s, 0, none⟩), k3E k] w fun e w' => ∃ x : Cr, e = .returned (crV x) ∧ x.c = a.at k ∧ CrOK w' w.heap.size x ∧ Below w.heap.size w w' := by
  have hb1 := below_alloc w (k3O k) w.heap.size (Nat.le_refl _)
  have hb2 := below_alloc (w.alloc (k3O k)) (cObj (.int .i64 0) (.int .i64 0) (.int .i64 0) (.bool false) (.int .i64 0) (.slice none 0 0) (.slice none 0 0)) w.heap.size (by simp)
  have hb2' := below_alloc (w.alloc (k3O k)) (cObj (.int .i64 0) (.int .i64 0) (.int .i64 0) (.bool false) (.int .i64 0) (.slice none 0 0) (.slice none 0 0)) _ (Nat.le_refl _)
  have hbb := hb1.trans hb2
  have hk := cells_three (boxed_old (heap_alloc_new w (k3O k)) hb2')
  have hr : ((w.alloc (k3O k)).alloc (cObj (.int .i64 0) (.int .i64 0) (.int .i64 0) (.bool false) (.int .i64 0) (.slice none 0 0) (.slice none 0 0))).heap[w.heap.size + 1]? = some (cObj (.int .i64 0) (.int .i64 0) (.int .i64 0) (.bool false) (.int .i64 0) (.slice none 0 0) (.slice none 0 0)) := by
    have := heap_alloc_new (w.alloc (k3O k)) (cObj (.int .i64 0) (.int .i64 0) (.int .i64 0) (.bool false) (.int .i64 0) (.slice none 0 0) (.slice none 0 0))
    simpa using this
  have h1 := h.later hbb
  obtain ⟨c0, c1, c2⟩ := sta_cells h1.obj
  have hKp : Kp ((w.alloc (k3O k)).alloc (cObj (.int .i64 0) (.int .i64 0) (.int .i64 0) (.bool false) (.int .i64 0) (.slice none 0 0) (.slice none 0 0))) s gv gl gd w.heap.size (w.heap.size + 1) k := ⟨c0, c1, c2, hk.1, hk.2.1, hk.2.2, hr⟩
  have HSR : Hid (s ≠ w.heap.size + 1) := by have := lt_of_heap (StaS.obj h); show _ ≠ _; omega
  clear hb1 hb2 hb2' hk hr h c0 c1 c2
  have HS2 : Hid (((w.alloc (k3O k)).alloc (cObj (.int .i64 0) (.int .i64 0) (.int .i64 0) (.bool false) (.int .i64 0) (.slice none 0 0) (.slice none 0 0))).heap.size = w.heap.size + 1 + 1) := by show _ = _; simp
  have HBB := hide hbb
  have HKp := hide hKp
  have H1 := hide h1
  clear hbb hKp h1
  unfold cObj k3O k3E at *
  go_enter Tryz.func37, Tryz.ntmps37
  go_wp2
  generalize ((w.alloc (.cells #[.int .i64 k.g, .int .i64 k.n, .int .i64 k.i] 28)).alloc (.cells #[.int .i64 0, .int .i64 0, .int .i64 0, .bool false, .int .i64 0, .slice none 0 0, .slice none 0 0] 65)) = w2 at *
  have h1 := H1.out
  have hKp := HKp.out
  have s0 := hKp.six
  have hsr : s ≠ w.heap.size + 1 := HSR.out
  have hD := (Below.refl w2.heap.size w2).drew
  have HCV : Hid (Calls Tryz.prog 17 #[.pointer (some ⟨gv, 0, none⟩), k3E k] w2.drew fun e w' => e = .returned (.tuple #[.int .i64 ((a.V k).getD 0), .bool (a.V k).isSome]) ∧ Hid (Below w2.heap.size w2 w') ∧
      (w'.cell? ⟨s, 0, none⟩ = some (.pointer (some ⟨gv, 0, none⟩)) ∧ w'.cell? ⟨s, 1, none⟩ = some (.pointer (some ⟨gl, 0, none⟩)) ∧ w'.cell? ⟨s, 2, none⟩ = some (.pointer (some ⟨gd, 0, none⟩)) ∧ w'.cell? ⟨w.heap.size, 0, none⟩ = some (.int .i64 k.g) ∧ w'.cell? ⟨w.heap.size, 1, none⟩ = some (.int .i64 k.n) ∧ w'.cell? ⟨w.heap.size, 2, none⟩ = some (.int .i64 k.i))) := by
    obtain ⟨X, hX⟩ := (h1.later hD).rdV
    refine (valueGet X gv N a.V k _ hX).mono ?_
    rintro e w' ⟨r1, r2⟩
    have hT := hD.trans (r2.mono hD.size)
    exact ⟨r1, hT, (HKp.out.later hT).six⟩
  have HCL : Hid (∀ W1, Below w2.heap.size w2 W1 → Calls Tryz.prog 22 #[.pointer (some ⟨gl, 0, none⟩), k3E k] W1 fun e w' => ∃ p q, e = .returned (.slice p (a.L k).length q) ∧ Hid (OwnI w' w2.heap.size (.slice p (a.L k).length q) (a.L k) ∧ Below w2.heap.size w2 w') ∧
      (w'.cell? ⟨s, 0, none⟩ = some (.pointer (some ⟨gv, 0, none⟩)) ∧ w'.cell? ⟨s, 1, none⟩ = some (.pointer (some ⟨gl, 0, none⟩)) ∧ w'.cell? ⟨s, 2, none⟩ = some (.pointer (some ⟨gd, 0, none⟩)) ∧ w'.cell? ⟨w.heap.size, 0, none⟩ = some (.int .i64 k.g) ∧ w'.cell? ⟨w.heap.size, 1, none⟩ = some (.int .i64 k.n) ∧ w'.cell? ⟨w.heap.size, 2, none⟩ = some (.int .i64 k.i))) := fun W1 hW => by
    obtain ⟨X, hX⟩ := (h1.later hW).rdL
    refine (listList X gl N a.L k _ hX hl).mono ?_
    rintro e w' ⟨la, r1, r2, r3⟩
    obtain ⟨p, q, rfl, _⟩ := RowI.slice r2.row
    have hT := hW.trans (r3.mono hW.size)
    exact ⟨p, q, r1, ⟨row_mono r2 hW.size, hT⟩, (HKp.out.later hT).six⟩
  have HCD : Hid (∀ W1, Below w2.heap.size w2 W1 → Calls Tryz.prog 9 #[.pointer (some ⟨gd, 0, none⟩), k3E k] W1 fun e w' => ∃ p q, e = .returned (.slice p (a.D k).length q) ∧ Hid (OwnF w' w2.heap.size (.slice p (a.D k).length q) (a.D k) ∧ Below w2.heap.size w2 w' ∧ Below W1.heap.size W1 w' ∧ Kp w' s gv gl gd w.heap.size (w.heap.size + 1) k) ∧
      (w'.cell? ⟨s, 0, none⟩ = some (.pointer (some ⟨gv, 0, none⟩)) ∧ w'.cell? ⟨s, 1, none⟩ = some (.pointer (some ⟨gl, 0, none⟩)) ∧ w'.cell? ⟨s, 2, none⟩ = some (.pointer (some ⟨gd, 0, none⟩)) ∧ w'.cell? ⟨w.heap.size, 0, none⟩ = some (.int .i64 k.g) ∧ w'.cell? ⟨w.heap.size, 1, none⟩ = some (.int .i64 k.n) ∧ w'.cell? ⟨w.heap.size, 2, none⟩ = some (.int .i64 k.i)) ∧ (w'.cell? ⟨w.heap.size + 1, 0, none⟩ = some (.int .i64 0) ∧ w'.cell? ⟨w.heap.size + 1, 1, none⟩ = some (.int .i64 0) ∧ w'.cell? ⟨w.heap.size + 1, 2, none⟩ = some (.int .i64 0) ∧ w'.cell? ⟨w.heap.size + 1, 3, none⟩ = some (.bool false) ∧ w'.cell? ⟨w.heap.size + 1, 4, none⟩ = some (.int .i64 0) ∧ w'.cell? ⟨w.heap.size + 1, 5, none⟩ = some (.slice none 0 0) ∧ w'.cell? ⟨w.heap.size + 1, 6, none⟩ = some (.slice none 0 0) ∧ (∀ j, w'.frozen? ⟨w.heap.size + 1, j, none⟩ = false))) := fun W1 hW => by
    obtain ⟨X, hX⟩ := (h1.later hW).rdD
    refine (dictDict X gd N a.D k _ hX hd).mono ?_
    rintro e w' ⟨la, r1, r2, r3⟩
    obtain ⟨p, q, rfl, _⟩ := RowF.rd r2.row
    have hT := hW.trans (r3.mono hW.size)
    exact ⟨p, q, r1, ⟨row_mono r2 hW.size, hT, r3, HKp.out.later hT⟩, (HKp.out.later hT).six, (HKp.out.later hT).seven⟩
  clear hKp hD h1 H1 hl hd
  unfold k3E at *
  have s0d : w2.drew.cell? ⟨s, 0, none⟩ = some (.pointer (some ⟨gv, 0, none⟩)) ∧ w2.drew.cell? ⟨s, 1, none⟩ = some (.pointer (some ⟨gl, 0, none⟩)) ∧ w2.drew.cell? ⟨s, 2, none⟩ = some (.pointer (some ⟨gd, 0, none⟩)) ∧ w2.drew.cell? ⟨w.heap.size, 0, none⟩ = some (.int .i64 k.g) ∧ w2.drew.cell? ⟨w.heap.size, 1, none⟩ = some (.int .i64 k.n) ∧ w2.drew.cell? ⟨w.heap.size, 2, none⟩ = some (.int .i64 k.i) := s0
  clear s0
  go_region_held3 (fun w' => w'.cell? ⟨s, 0, none⟩ = some (.pointer (some ⟨gv, 0, none⟩)) ∧ w'.cell? ⟨s, 1, none⟩ = some (.pointer (some ⟨gl, 0, none⟩)) ∧ w'.cell? ⟨s, 2, none⟩ = some (.pointer (some ⟨gd, 0, none⟩)) ∧ w'.cell? ⟨w.heap.size, 0, none⟩ = some (.int .i64 k.g) ∧ w'.cell? ⟨w.heap.size, 1, none⟩ = some (.int .i64 k.n) ∧ w'.cell? ⟨w.heap.size, 2, none⟩ = some (.int .i64 k.i)) (first | with_reducible exact s0d | with_reducible exact s1) ((go_at_call 17; refine HCV.out.mono ?_; rintro e W1 ⟨rfl, K1, s1⟩))
  all_goals
    clear HCV s0d
    have s1d : W1.drew.cell? ⟨s, 0, none⟩ = some (.pointer (some ⟨gv, 0, none⟩)) ∧ W1.drew.cell? ⟨s, 1, none⟩ = some (.pointer (some ⟨gl, 0, none⟩)) ∧ W1.drew.cell? ⟨s, 2, none⟩ = some (.pointer (some ⟨gd, 0, none⟩)) ∧ W1.drew.cell? ⟨w.heap.size, 0, none⟩ = some (.int .i64 k.g) ∧ W1.drew.cell? ⟨w.heap.size, 1, none⟩ = some (.int .i64 k.n) ∧ W1.drew.cell? ⟨w.heap.size, 2, none⟩ = some (.int .i64 k.i) := s1
    clear s1
    go_wp2
    go_region_held3 (fun w' => w'.cell? ⟨s, 0, none⟩ = some (.pointer (some ⟨gv, 0, none⟩)) ∧ w'.cell? ⟨s, 1, none⟩ = some (.pointer (some ⟨gl, 0, none⟩)) ∧ w'.cell? ⟨s, 2, none⟩ = some (.pointer (some ⟨gd, 0, none⟩)) ∧ w'.cell? ⟨w.heap.size, 0, none⟩ = some (.int .i64 k.g) ∧ w'.cell? ⟨w.heap.size, 1, none⟩ = some (.int .i64 k.n) ∧ w'.cell? ⟨w.heap.size, 2, none⟩ = some (.int .i64 k.i)) (first | with_reducible exact s1d | with_reducible exact s2 | with_reducible exact s3 | exact keep6 hsr (by omega) _ _ _ _ _ _ _ s3) (first | (go_at_call 22; refine (HCL.out _ K1.out.drew).mono ?_; rintro e W2 ⟨pl, ql, rfl, K2, s2⟩) | (go_at_call 9; refine (HCD.out _ K2.out.2).mono ?_; rintro e W3 ⟨pd, qd, rfl, K3, s3, u0, u1, u2, u3, u4, u5, u6, fr⟩))
    all_goals
      have HS := set7 K3.out.2.2.2.r (.int .i64 k.g) (.int .i64 k.n) (.int .i64 k.i) (.bool (a.V k).isSome) (.int .i64 ((a.V k).getD 0)) (.slice pl (a.L k).length ql) (.slice pd (a.D k).length qd)
      have HOK : Hid (CrOK W3 w.heap.size ⟨a.at k, .slice pl (a.L k).length ql, .slice pd (a.D k).length qd⟩) :=
        CrOK.mono (B := w2.heap.size) ⟨own_tch (C := i64C) (S := fun _ => False) (Below.tch K3.out.2.2.1) K2.out.1 (fun _ _ e => e), K3.out.1⟩ HBB.out.size
      have HOK2 := hide (HOK.out.tch HS.2 (fun j hj cur e hc => by
        subst hj
        rw [K3.out.2.2.2.r] at hc
        have : e = 65 := by simp [cObj] at hc; exact hc.2.symm
        subst this
        exact ⟨by decide, by decide⟩))
      have HBE := hide ((HBB.out.trans (K3.out.2.1.mono HBB.out.size)).trans (HS.2.below (B := w.heap.size) (fun j hj e => by omega) (HBB.out.trans (K3.out.2.1.mono HBB.out.size)).size))
      obtain ⟨v0, v1, v2, v3, v4, v5, v6⟩ := c_cells HS.1
      clear HS HOK K1 K2 K3 HCL HCD s3 u0 u1 u2 u3 u4 u5 u6 fr
      go_wp2
      generalize (((((((W3.setCell ⟨w.heap.size + 1, 0, none⟩ (.int .i64 k.g)).setCell ⟨w.heap.size + 1, 1, none⟩ (.int .i64 k.n)).setCell ⟨w.heap.size + 1, 2, none⟩ (.int .i64 k.i)).setCell ⟨w.heap.size + 1, 3, none⟩ (.bool (a.V k).isSome)).setCell ⟨w.heap.size + 1, 4, none⟩ (.int .i64 ((a.V k).getD 0))).setCell ⟨w.heap.size + 1, 5, none⟩ (.slice pl (a.L k).length ql)).setCell ⟨w.heap.size + 1, 6, none⟩ (.slice pd (a.D k).length qd)) = WF at *
      refine bodyPost_ret (v := crV ⟨a.at k, .slice pl (a.L k).length ql, .slice pd (a.D k).length qd⟩) (by simp [results, Tryz.results37, go_sem, crV, Ab.at, v0, v1, v2, v3, v4, v5, v6]) rfl ⟨_, rfl, rfl, HOK2.out, HBE.out⟩

end Go.Proofs.YtdogecaonlmalaaGreat

namespace Go.Proofs.YtdogecaonlmalaaGreat
open Go.RowKit Go.MapKept Go.ChangeMaps

/-- The cells that have been laid so far. -/
structure Lain (w1 wr : World) (a : Ab) (ks : List K3) (v : Value) (xs : List Cr) (n : Nat) : Prop where
  row : OwnR wr w1.heap.size v xs
  eq : xs.map Cr.c = (ks.take n).map a.at
  bel : Below w1.heap.size w1 wr

set_option maxRecDepth 100000 in
set_option maxHeartbeats 2000000 in
/-- Cells. -/
theorem stateCells (O : Nat → Prop) (s gv gl gd N : Nat) (a : Ab) (w : World) (h : AbS w O s gv gl gd a N) (hN : N ≤ 1000) (hl : ∀ k, (a.L k).length ≤ 100) (hd : ∀ k, (a.D k).length ≤ 100) :
    Calls Tryz.prog 20 #[.pointer (some ⟨s, 0, none⟩)] w fun e w' => ∃ v xs ks, e = .returned v ∧ Kof a ks ∧ ks.length ≤ 3 * N ∧ xs.map Cr.c = ks.map a.at ∧ OwnR w' w.heap.size v xs ∧ Below w.heap.size w w' := by
  have HK := hide (allKeys_any O s gv gl gd N a w h hN)
  have HSt := hide h
  have HL := hide hl
  have HD := hide hd
  clear h hl hd
  go_enter Tryz.func20, Tryz.ntmps20
  go_wp2_with fail
  refine HK.out.mono ?_
  rintro e w1 ⟨vk, ks, rfl, k1, k2, k3, k4⟩
  have HK1 := hide k1
  have HK2 := hide k2
  have HK3 := hide k3
  have HK4 := hide k4
  obtain ⟨pa, cp, rfl, hpa⟩ : ∃ pa cp, vk = .slice pa ks.length cp ∧ ks.length ≤ cp := by
    rcases k3.slice with ⟨rfl, rfl⟩ | ⟨g, cp, rfl, h1, _⟩
    · exact ⟨_, _, rfl, Nat.le_refl _⟩
    · exact ⟨_, _, rfl, h1⟩
  have hks : ks.length ≤ 3000 := by omega
  clear k1 k3 k4 HK
  go_wp2_with fail
  go_loopw [11, 3] (fun i u wr => ∃ (n : Nat) (xs : List Cr) (v : Value), n ≤ ks.length ∧ i = .int .i64 n ∧ v = u ∧ Hid (Lain w1 wr a ks v xs n)) (fun i _ _ => ks.length - (intOf i).toNat)
  case atStart => exact ⟨0, [], _, by omega, rfl, rfl, OwnR.nil _ _, rfl, Below.refl _ _⟩
  case round =>
    obtain ⟨n, xs, v, hn, rfl, rfl, HA⟩ := hrel
    have hxl : xs.length = n := by have := congrArg List.length HA.out.eq; simp at this; omega
    by_cases hlt : n < ks.length
    · obtain ⟨x, hx⟩ : ∃ x, ks[n]? = some x := ⟨_, List.getElem?_eq_getElem hlt⟩
      have ho := HK3.out.tch (S := fun _ => False) (Below.tch HA.out.bel) (fun _ _ e => e)
      obtain ⟨g, rfl⟩ : ∃ g, pa = some ⟨g, 0, none⟩ := by
        rcases ho.slice with ⟨_, e⟩ | ⟨g, cp', e, _⟩
        · rw [e] at hlt; simp at hlt
        · simp at e; exact ⟨g, e.1⟩
      obtain ⟨z0, z1, z2⟩ := ho.at hx
      have hb2 := below_alloc wr (k3O x) wr.heap.size (Nat.le_refl _)
      have hb1 := HA.out.bel.trans (hb2.mono HA.out.bel.size)
      have HC : Hid (Calls Tryz.prog 37 #[.pointer (some ⟨s, 0, none⟩), k3E x] (wr.alloc (k3O x)) fun e w' => ∃ y : Cr, e = .returned (crV y) ∧ ∃ v' w2, (∀ ty, (Builtin.append_ #[61, 61] ty #[v, .slice (some ⟨w'.heap.size, 0, none⟩) 1 1]).run Tryz.prog (w'.alloc (crO y)) = .ok v' w2) ∧ Hid (Lain w1 w2 a ks v' (xs ++ [y]) (n + 1))) := by
        refine (stateCell O s gv gl gd N a x _ (((HSt.out.later HK4.out).later HA.out.bel).later hb2) (HL.out x) (HD.out x)).mono ?_
        rintro e w' ⟨y, r1, r2, r3, r4⟩
        have hb3 := hb1.trans (r4.mono hb1.size)
        have hb5 := below_alloc w' (crO y) w'.heap.size (Nat.le_refl _)
        have hb4 := hb3.trans (hb5.mono hb3.size)
        obtain ⟨v', w2, q1, q2, q3⟩ := ((((HA.out.row.later hb2).later r4).later hb5)).app w'.heap.size y (heap_alloc_new w' _) ((r3.mono hb1.size).later hb5) (by omega) hb4.size
        refine ⟨y, r1, v', w2, q1, q2, ?_, hb4.grown q3 hb4.size (fun k hk => (World.ownsRow.lt HA.out.row.row k hk).1)⟩
        rw [List.map_append, HA.out.eq, take_snoc hx, List.map_append]
        simp [r2]
      clear ho hx hb1 hb2 hxl HA
      unfold k3O k3E at *
      go_wp2_with fail
      refine HC.out.mono ?_
      rintro e w2 ⟨y, rfl, v', w3, hrun, HA2⟩
      have HR := hide hrun
      clear hrun HC z0 z1 z2
      unfold crV crO at *
      go_wp2_with (at_builtin; refine wpList_ran rfl (.tmp 15) (.tmp 19) _ _ rfl _ _ v' (by rfl) (by rfl) HR.out ?_)
      exact ⟨⟨n + 1, _, _, by omega, by simp, rfl, HA2⟩, by simp [intOf]; omega⟩
    · obtain rfl : n = ks.length := by omega
      have H1 : Hid (Kof a ks ∧ ks.length ≤ 3 * N ∧ xs.map Cr.c = ks.map a.at ∧ OwnR wr w.heap.size v xs ∧ Below w.heap.size w wr) :=
        ⟨HK1.out, HK2.out, by have := HA.out.eq; rwa [List.take_length] at this, HA.out.row.mono HK4.out.size, HK4.out.trans (HA.out.bel.mono HK4.out.size)⟩
      clear HA HK1 HK2 HK3 HK4
      go_wp2
      go_ret
      exact ⟨_, xs, ks, rfl, H1.out⟩
end Go.Proofs.YtdogecaonlmalaaGreat

namespace Go.Proofs.YtdogecaonlmalaaGreat
open Go.RowKit Go.MapKept Go.ChangeMaps

theorem eqlK (a b : K3) (W : World) : (binOp .eql 28 (.agg #[.int .i64 a.g, .int .i64 a.n, .int .i64 a.i]) (.agg #[.int .i64 b.g, .int .i64 b.n, .int .i64 b.i])).run Tryz.prog W = .ok (.bool (decide (a = b))) W := by
  have e : decide (a = b) = (decide (a.g = b.g) && (decide (a.n = b.n) && decide (a.i = b.i))) := by
    by_cases h1 : a.g = b.g
    · by_cases h2 : a.n = b.n
      · by_cases h3 : a.i = b.i
        · simp [K3.ext' h1 h2 h3]
        · have : a ≠ b := fun e => h3 (by rw [e])
          simp [h3, this]
      · have : a ≠ b := fun e => h2 (by rw [e])
        simp [h2, this]
    · have : a ≠ b := fun e => h1 (by rw [e])
      simp [h1, this]
  rw [e]
  clear e
  generalize a.g = ag
  generalize a.n = an
  generalize a.i = ai
  generalize b.g = bg
  generalize b.n = bn
  generalize b.i = bi
  by_cases h1 : ag = bg
  · by_cases h2 : an = bn
    · by_cases h3 : ai = bi
      · subst h1; subst h2; subst h3; simp [go_sem]
      · subst h1; subst h2; simp [go_sem, h3]
    · subst h1; simp [go_sem, h2]
  · simp [go_sem, h1]

theorem opt_eq (a b : Option Int) : a = b ↔ (a.isSome = b.isSome ∧ a.getD 0 = b.getD 0) := by
  cases a <;> cases b <;> simp
theorem cl_eq (a b : Cl) : a = b ↔ (a.k = b.k ∧ a.v.isSome = b.v.isSome ∧ a.v.getD 0 = b.v.getD 0 ∧ a.l = b.l ∧ a.d = b.d) := by
  obtain ⟨ak, av, al, ad⟩ := a
  obtain ⟨bk, bv, bl, bd⟩ := b
  simp only [Cl.mk.injEq, opt_eq av bv, and_assoc]

theorem cells_seven {w : World} {g : Nat} {a0 a1 a2 a3 a4 a5 a6 : Value} {T : TypeId} {mk : Nat × Nat} (h : w.heap[g]? = some (.cells #[a0, a1, a2, a3, a4, a5, a6] T mk)) :
    w.cell? ⟨g, 0, none⟩ = some a0 ∧ w.cell? ⟨g, 1, none⟩ = some a1 ∧ w.cell? ⟨g, 2, none⟩ = some a2 ∧ w.cell? ⟨g, 3, none⟩ = some a3 ∧ w.cell? ⟨g, 4, none⟩ = some a4 ∧ w.cell? ⟨g, 5, none⟩ = some a5 ∧ w.cell? ⟨g, 6, none⟩ = some a6 := by
  refine ⟨?_, ?_, ?_, ?_, ?_, ?_, ?_⟩ <;> simp [World.cell?, h]

set_option maxRecDepth 100000 in
set_option maxHeartbeats 2000000 in
theorem sameCell_core (xk yk : K3) (p q : Bool) (m n : Int) (lx ly : Option Addr) (cx cy : Nat) (xl yl : List Int) (dx dy : Option Addr) (fx fy : Nat) (xd yd : List (Int × Int)) (w : World)
    (rx : Rd w lx xl.length cx xl) (ry : Rd w ly yl.length cy yl) (qx : RdF w dx xd.length fx xd) (qy : RdF w dy yd.length fy yd) (hx1 : xl.length ≤ 1000) (hx2 : xd.length ≤ 1000) (hy1 : yl.length ≤ 1000) (hy2 : yd.length ≤ 1000) :
    Calls Tryz.prog 41 #[.agg #[.int .i64 xk.g, .int .i64 xk.n, .int .i64 xk.i, .bool p, .int .i64 m, .slice lx xl.length cx, .slice dx xd.length fx], .agg #[.int .i64 yk.g, .int .i64 yk.n, .int .i64 yk.i, .bool q, .int .i64 n, .slice ly yl.length cy, .slice dy yd.length fy]] w
      fun e w' => e = .returned (.bool (decide (xk = yk) && (decide (p = q) && (decide (m = n) && (decide (xl = yl) && decide (xd = yd)))))) ∧ Below w.heap.size w w' := by
  have hb1 := below_alloc w (.cells #[.int .i64 xk.g, .int .i64 xk.n, .int .i64 xk.i, .bool p, .int .i64 m, .slice lx xl.length cx, .slice dx xd.length fx] 65) w.heap.size (Nat.le_refl _)
  have hb2 := below_alloc (w.alloc (.cells #[.int .i64 xk.g, .int .i64 xk.n, .int .i64 xk.i, .bool p, .int .i64 m, .slice lx xl.length cx, .slice dx xd.length fx] 65)) (.cells #[.int .i64 yk.g, .int .i64 yk.n, .int .i64 yk.i, .bool q, .int .i64 n, .slice ly yl.length cy, .slice dy yd.length fy] 65) _ (Nat.le_refl _)
  have hbb := hb1.trans (hb2.mono hb1.size)
  obtain ⟨x0, x1, x2, x3, x4, x5, x6⟩ := cells_seven (boxed_old (heap_alloc_new w _) hb2)
  obtain ⟨y0, y1, y2, y3, y4, y5, y6⟩ := cells_seven (heap_alloc_new (w.alloc (.cells #[.int .i64 xk.g, .int .i64 xk.n, .int .i64 xk.i, .bool p, .int .i64 m, .slice lx xl.length cx, .slice dx xd.length fx] 65)) (.cells #[.int .i64 yk.g, .int .i64 yk.n, .int .i64 yk.i, .bool q, .int .i64 n, .slice ly yl.length cy, .slice dy yd.length fy] 65))
  have hs : (w.alloc (.cells #[.int .i64 xk.g, .int .i64 xk.n, .int .i64 xk.i, .bool p, .int .i64 m, .slice lx xl.length cx, .slice dx xd.length fx] 65)).heap.size = w.heap.size + 1 := by simp
  rw [hs] at y0 y1 y2 y3 y4 y5 y6
  clear hb1 hb2 hs
  have HEI := hide (equalI lx ly _ cx _ cy _ _ _ (rx.later hbb) (ry.later hbb) (by omega) (by omega))
  have HQX := hide (qx.later hbb)
  have HQY := hide (qy.later hbb)
  have hq := eqlK xk yk
  have HB := hide hbb
  clear hbb rx ry qx qy
  generalize decide (xk = yk) = b1 at *
  generalize hb4 : decide (xl = yl) = b4 at *
  clear hb4
  cases b1 with
  | false =>
    go_enter Tryz.func41, Tryz.ntmps41
    go_wp2
    go_ret
    exact ⟨rfl, HB.out⟩
  | true =>
    by_cases hpq : p = q
    · subst hpq
      by_cases hmn : m = n
      · subst hmn
        go_enter Tryz.func41, Tryz.ntmps41
        go_wp2_with fail
        refine HEI.out.mono ?_
        rintro e w1 ⟨rfl, hb1⟩
        have HB1 := hide (HB.out.trans (hb1.mono HB.out.size))
        have x6' := same_cell hb1 x6
        have y6' := same_cell hb1 y6
        have HEF := hide (equalF dx dy _ fx _ fy _ _ w1 (HQX.out.later hb1) (HQY.out.later hb1) (by omega) (by omega))
        clear hb1 HB HEI x0 x1 x2 x3 x4 x5 x6 y0 y1 y2 y3 y4 y5 y6
        cases b4 with
        | false =>
          clear HEF
          go_wp2
          go_ret
          exact ⟨by simp, HB1.out⟩
        | true =>
          go_wp2_with fail
          refine HEF.out.mono ?_
          rintro e w2 ⟨rfl, hb2⟩
          have HB2 := hide (HB1.out.trans (hb2.mono HB1.out.size))
          clear hb2 HB1 HEF
          go_wp2
          go_ret
          exact ⟨by simp, HB2.out⟩
      · have hb : (m == n) = false := by simpa using hmn
        go_enter Tryz.func41, Tryz.ntmps41
        go_wp2
        go_ret
        exact ⟨by simp [hmn], HB.out⟩
    · have hb : (p == q) = false := by simpa using hpq
      go_enter Tryz.func41, Tryz.ntmps41
      go_wp2
      go_ret
      exact ⟨by simp [hpq], HB.out⟩

/-- Are two cells one? -/
theorem sameCell_any [DecidableEq Cl] (x y : Cr) (w : World) (hx : CrOK w 0 x) (hy : CrOK w 0 y) (hx1 : x.c.l.length ≤ 1000) (hx2 : x.c.d.length ≤ 1000) (hy1 : y.c.l.length ≤ 1000) (hy2 : y.c.d.length ≤ 1000) :
    Calls Tryz.prog 41 #[crV x, crV y] w fun e w' => e = .returned (.bool (decide (x.c = y.c))) ∧ Below w.heap.size w w' := by
  obtain ⟨lx, cx, ex, rx, _⟩ := RowI.slice hx.la.row
  obtain ⟨ly, cy, ey, ry, _⟩ := RowI.slice hy.la.row
  obtain ⟨dx, fx, gx, qx⟩ := RowF.rd hx.da.row
  obtain ⟨dy, fy, gy, qy⟩ := RowF.rd hy.da.row
  unfold crV
  rw [ex, ey, gx, gy]
  refine (sameCell_core x.c.k y.c.k _ _ _ _ lx ly cx cy _ _ dx dy fx fy _ _ w rx ry qx qy hx1 hx2 hy1 hy2).mono ?_
  rintro e w' ⟨rfl, hb⟩
  refine ⟨ret_bool ?_, hb⟩
  rw [Bool.eq_iff_iff]
  simp only [Bool.and_eq_true, decide_eq_true_eq]
  exact (cl_eq _ _).symm

/-- Cells whose lists are short. -/
def Shrt (xs : List Cr) : Prop := ∀ x ∈ xs, x.c.l.length ≤ 1000 ∧ x.c.d.length ≤ 1000

set_option maxRecDepth 100000 in
set_option maxHeartbeats 2000000 in
/-- Are two rows of cells one? -/
theorem equalCr [DecidableEq Cl] (v1 v2 : Value) (xs ys : List Cr) (w : World) (h1 : OwnR w 0 v1 xs) (h2 : OwnR w 0 v2 ys) (s1 : Shrt xs) (s2 : Shrt ys) (n1 : xs.length ≤ 100000) (n2 : ys.length ≤ 100000) :
    Calls Tryz.prog 40 #[v1, v2, .func (.func 41) #[] #[]] w fun e w' => e = .returned (.bool (decide (xs.map Cr.c = ys.map Cr.c))) ∧ Below w.heap.size w w' := by
  obtain ⟨a1, c1, rfl⟩ : ∃ a c, v1 = .slice a xs.length c := by
    rcases h1.slice with ⟨rfl, rfl⟩ | ⟨g, cp, rfl, _⟩
    · exact ⟨_, _, rfl⟩
    · exact ⟨_, _, rfl⟩
  obtain ⟨a2, c2, rfl⟩ : ∃ a c, v2 = .slice a ys.length c := by
    rcases h2.slice with ⟨rfl, rfl⟩ | ⟨g, cp, rfl, _⟩
    · exact ⟨_, _, rfl⟩
    · exact ⟨_, _, rfl⟩
  by_cases hne : xs.length = ys.length
  · have H1 := hide h1
    have H2 := hide h2
    have S1 := hide s1
    have S2 := hide s2
    clear h1 h2 s1 s2
    have HNE := hide hne
    rw [← hne]
    clear hne n2
    go_enter Tryz.func40, Tryz.ntmps40
    go_wp2
    go_loopw [17] (fun i wr => ∃ k : Nat, k ≤ xs.length ∧ i = .int .i64 k ∧ Hid ((xs.map Cr.c).take k = (ys.map Cr.c).take k) ∧ Hid (Below w.heap.size w wr)) (fun i _ => xs.length - (intOf i).toNat)
    case atStart => exact ⟨0, by omega, rfl, rfl, Below.refl _ _⟩
    case round =>
      obtain ⟨k, hk, rfl, HT, HB⟩ := hrel
      by_cases hlt : k < xs.length
      · obtain ⟨x, hx⟩ : ∃ x, xs[k]? = some x := ⟨_, List.getElem?_eq_getElem hlt⟩
        obtain ⟨y, hy⟩ : ∃ y, ys[k]? = some y := ⟨_, List.getElem?_eq_getElem (by rw [← HNE.out]; exact hlt)⟩
        have r1 := H1.out.later HB.out
        have r2 := H2.out.later HB.out
        obtain ⟨b1, rfl, hc1⟩ : ∃ b, a1 = some ⟨b, 0, none⟩ ∧ xs.length ≤ c1 := by
          rcases r1.slice with ⟨_, e⟩ | ⟨g, cp, e, h, _⟩
          · rw [e] at hlt; simp at hlt
          · simp at e; exact ⟨g, e.1, by omega⟩
        obtain ⟨b2, rfl, hc2⟩ : ∃ b, a2 = some ⟨b, 0, none⟩ ∧ xs.length ≤ c2 := by
          rcases r2.slice with ⟨_, e⟩ | ⟨g, cp, e, h, _⟩
          · rw [e] at hy; simp at hy
          · simp at e; have := HNE.out; exact ⟨g, e.1, by omega⟩
        obtain ⟨⟨xk, xv, xl, xd⟩, xla, xda⟩ := x
        obtain ⟨⟨yk, yv, yl, yd⟩, yla, yda⟩ := y
        obtain ⟨lx, cx, ex, _⟩ := RowI.slice (r1.all _ (List.mem_of_getElem? hx)).la.row
        obtain ⟨dx, fx, gx, _⟩ := RowF.rd (r1.all _ (List.mem_of_getElem? hx)).da.row
        obtain ⟨ly, cy, ey, _⟩ := RowI.slice (r2.all _ (List.mem_of_getElem? hy)).la.row
        obtain ⟨dy, fy, gy, _⟩ := RowF.rd (r2.all _ (List.mem_of_getElem? hy)).da.row
        simp only at ex gx ey gy
        subst ex
        subst gx
        subst ey
        subst gy
        obtain ⟨p0, p1, p2, p3, p4, p5, p6⟩ := r1.at hx
        simp only at p0 p1 p2 p3 p4 p5 p6
        have hb1 := below_alloc wr (crO (⟨⟨xk, xv, xl, xd⟩, .slice lx xl.length cx, .slice dx xd.length fx⟩ : Cr)) wr.heap.size (Nat.le_refl _)
        obtain ⟨q0, q1, q2, q3, q4, q5, q6⟩ := (r2.later hb1).at hy
        simp only at q0 q1 q2 q3 q4 q5 q6
        have hb2 := below_alloc (wr.alloc (crO (⟨⟨xk, xv, xl, xd⟩, .slice lx xl.length cx, .slice dx xd.length fx⟩ : Cr))) (crO (⟨⟨yk, yv, yl, yd⟩, .slice ly yl.length cy, .slice dy yd.length fy⟩ : Cr)) _ (Nat.le_refl _)
        have hbb := hb1.trans (hb2.mono hb1.size)
        have HC := hide (sameCell_any (⟨⟨xk, xv, xl, xd⟩, .slice lx xl.length cx, .slice dx xd.length fx⟩ : Cr) (⟨⟨yk, yv, yl, yd⟩, .slice ly yl.length cy, .slice dy yd.length fy⟩ : Cr) ((wr.alloc (crO (⟨⟨xk, xv, xl, xd⟩, .slice lx xl.length cx, .slice dx xd.length fx⟩ : Cr))).alloc (crO (⟨⟨yk, yv, yl, yd⟩, .slice ly yl.length cy, .slice dy yd.length fy⟩ : Cr))) ((r1.all _ (List.mem_of_getElem? hx)).later hbb) ((r2.all _ (List.mem_of_getElem? hy)).later hbb) (S1.out _ (List.mem_of_getElem? hx)).1 (S1.out _ (List.mem_of_getElem? hx)).2 (S2.out _ (List.mem_of_getElem? hy)).1 (S2.out _ (List.mem_of_getElem? hy)).2)
        have HBB := hide (HB.out.trans (hbb.mono HB.out.size))
        have HX := hide hx
        have HY := hide hy
        clear hb1 hb2 hbb r1 r2 hx hy HB
        unfold crO crV at *
        simp only at *
        go_wp2_with fail
        refine HC.out.mono ?_
        rintro e w1 ⟨rfl, hb1⟩
        have HB1 := hide (HBB.out.trans (hb1.mono HBB.out.size))
        clear hb1 HC HBB p0 p1 p2 p3 p4 p5 p6 q0 q1 q2 q3 q4 q5 q6
        by_cases hxy : (⟨xk, xv, xl, xd⟩ : Cl) = (⟨yk, yv, yl, yd⟩ : Cl)
        · have HT1 : Hid ((xs.map Cr.c).take (k + 1) = (ys.map Cr.c).take (k + 1)) := by
            show _ = _
            rw [take_snoc (x := (⟨xk, xv, xl, xd⟩ : Cl)) (by rw [List.getElem?_map, HX.out]; rfl), take_snoc (x := (⟨yk, yv, yl, yd⟩ : Cl)) (by rw [List.getElem?_map, HY.out]; rfl), HT.out, hxy]
          rw [decide_eq_true hxy]
          clear HT hxy
          go_wp2
          exact ⟨⟨k + 1, by omega, by simp, HT1, HB1.out⟩, by simp [intOf]; omega⟩
        · have HF : Hid (decide (xs.map Cr.c = ys.map Cr.c) = false) := by
            show _ = _
            have := ne_at (a := xs.map Cr.c) (b := ys.map Cr.c) (x := (⟨xk, xv, xl, xd⟩ : Cl)) (y := (⟨yk, yv, yl, yd⟩ : Cl)) (k := k) (by rw [List.getElem?_map, HX.out]; rfl) (by rw [List.getElem?_map, HY.out]; rfl) hxy
            simpa using this
          rw [decide_eq_false hxy]
          clear HT hxy
          go_wp2
          go_ret
          exact ⟨ret_bool HF.out.symm, HB1.out⟩
      · have HE : Hid (decide (xs.map Cr.c = ys.map Cr.c) = true) := by
          have := HT.out
          rw [List.take_of_length_le (by simp; omega), List.take_of_length_le (by have := HNE.out; simp; omega)] at this
          show _ = _
          simpa using this
        clear HT
        go_wp2
        go_ret
        exact ⟨ret_bool HE.out.symm, HB.out⟩
  · have HF : Hid (decide (xs.map Cr.c = ys.map Cr.c) = false) := by
      show _ = _
      have : xs.map Cr.c ≠ ys.map Cr.c := fun e => hne (by have := congrArg List.length e; simpa using this)
      simpa using this
    have hb : ((xs.length : Int) == (ys.length : Int)) = false := by simp; omega
    clear h1 h2 s1 s2
    go_enter Tryz.func40, Tryz.ntmps40
    go_wp2
    go_ret
    exact ⟨ret_bool HF.out.symm, Below.refl _ _⟩

theorem shrt_of {a : Ab} {ks : List K3} {xs : List Cr} (h : xs.map Cr.c = ks.map a.at) (hl : ∀ k, (a.L k).length ≤ 100) (hd : ∀ k, (a.D k).length ≤ 100) : Shrt xs := by
  intro x hx
  have : x.c ∈ ks.map a.at := by rw [← h]; exact List.mem_map.2 ⟨x, hx, rfl⟩
  obtain ⟨k, _, e⟩ := List.mem_map.1 this
  rw [← e]
  exact ⟨Nat.le_trans (hl k) (by omega), Nat.le_trans (hd k) (by omega)⟩

set_option maxRecDepth 100000 in
/-- Eq. -/
theorem stateEq (O1 O2 : Nat → Prop) (s1 v1 l1 d1 N1 s2 v2 l2 d2 N2 : Nat) (a b : Ab) (w : World) (h1 : AbS w O1 s1 v1 l1 d1 a N1) (h2 : AbS w O2 s2 v2 l2 d2 b N2) (hN1 : N1 ≤ 1000) (hN2 : N2 ≤ 1000)
    (hl1 : ∀ k, (a.L k).length ≤ 100) (hd1 : ∀ k, (a.D k).length ≤ 100) (hl2 : ∀ k, (b.L k).length ≤ 100) (hd2 : ∀ k, (b.D k).length ≤ 100) :
    Calls Tryz.prog 23 #[.pointer (some ⟨s1, 0, none⟩), .pointer (some ⟨s2, 0, none⟩)] w fun e w' => ∃ r, e = .returned (.bool r) ∧ (r = true ↔ a = b) ∧ Below w.heap.size w w' := by
  have : DecidableEq Cl := fun _ _ => Classical.propDecidable _
  have HC1 := hide (stateCells O1 s1 v1 l1 d1 N1 a w h1 hN1 hl1 hd1)
  have HC2 := hide (fun (W : World) (hW : Below w.heap.size w W) => stateCells O2 s2 v2 l2 d2 N2 b W (StaS.later h2 hW) hN2 hl2 hd2)
  have HL := hide (And.intro (And.intro hl1 hd1) (And.intro hl2 hd2))
  clear h1 h2 hl1 hl2 hd1 hd2
  go_enter Tryz.func23, Tryz.ntmps23
  go_wp2_with fail
  refine HC1.out.mono ?_
  rintro e w1 ⟨x1, xs, ks, rfl, k1, k2, k3, k4, k5⟩
  have HB1 := hide k5
  have HX := hide k4
  have HK1 := hide (And.intro k1 (And.intro k2 k3))
  clear k1 k2 k3 k4 k5 HC1
  go_wp2_with fail
  refine (HC2.out _ HB1.out).mono ?_
  rintro e w2 ⟨x2, ys, js, rfl, k1, k2, k3, k4, k5⟩
  have HB2 := hide (HB1.out.trans (k5.mono HB1.out.size))
  have m1 := congrArg List.length HK1.out.2.2
  have m2 := congrArg List.length k3
  rw [List.length_map, List.length_map] at m1 m2
  have m3 := HK1.out.2.1
  have HQ := hide (equalCr x1 x2 xs ys w2 ((HX.out.later k5).mono (Nat.zero_le _)) (k4.mono (Nat.zero_le _)) (shrt_of HK1.out.2.2 HL.out.1.1 HL.out.1.2) (shrt_of k3 HL.out.2.1 HL.out.2.2) (by omega) (by omega))
  have HR : Hid (decide (xs.map Cr.c = ys.map Cr.c) = true ↔ a = b) := by
    show _ ↔ _
    rw [decide_eq_true_eq, HK1.out.2.2, k3]
    exact cells_eq HK1.out.1 k1
  clear k1 k2 k3 k4 k5 m1 m2 m3 HC2 HX HK1 HL HB1
  go_wp2_with fail
  refine HQ.out.mono ?_
  rintro e w3 ⟨rfl, hb⟩
  have HB3 := hide (HB2.out.trans (hb.mono HB2.out.size))
  clear hb HB2 HQ
  go_wp2
  go_ret
  exact ⟨_, rfl, HR.out, HB3.out⟩
end Go.Proofs.YtdogecaonlmalaaGreat

namespace Go.Proofs.YtdogecaonlmalaaGreat
open Go.RowKit Go.MapKept Go.ChangeMaps

theorem stSet (O : Nat → Prop) (s gv gl gd N : Nat) (a : Ab) (k : K3) (n : Int) (w : World) (h : AbS w O s gv gl gd a N) (hO : ∀ k, w.heap.size ≤ k → O k) :
    Calls Tryz.prog 16 #[.pointer (some ⟨gv, 0, none⟩), k3E k, .int .i64 n] w fun e w' => e = .returned (.tuple #[]) ∧ AbS w' O s gv gl gd ⟨updK a.V k (some n), a.L, a.D⟩ (N + 1) ∧ Tch O w w' := by
  obtain ⟨X, q1, q2, q3⟩ := StaS.onV h hO
  refine (valueSet X gv N a.V k n _ q1 q2).mono ?_
  rintro e w' ⟨r1, r2, r3⟩
  obtain ⟨p1, p2⟩ := q3 w' _ r2 r3
  exact ⟨r1, p1, p2⟩
theorem stUnset (O : Nat → Prop) (s gv gl gd N : Nat) (a : Ab) (k : K3) (w : World) (h : AbS w O s gv gl gd a N) (hO : ∀ k, w.heap.size ≤ k → O k) :
    Calls Tryz.prog 51 #[.pointer (some ⟨gv, 0, none⟩), k3E k] w fun e w' => e = .returned (.bool (a.V k).isSome) ∧ AbS w' O s gv gl gd ⟨updK a.V k none, a.L, a.D⟩ (N + 1) ∧ Tch O w w' := by
  obtain ⟨X, q1, q2, q3⟩ := StaS.onV h hO
  refine (valueUnset X gv N a.V k _ q1).mono ?_
  rintro e w' ⟨r1, r2, r3⟩
  obtain ⟨p1, p2⟩ := q3 w' _ (r2.more (Nat.le_succ _)) r3
  exact ⟨r1, p1, p2⟩
theorem stPush (O : Nat → Prop) (s gv gl gd N : Nat) (a : Ab) (k : K3) (ao : Option Addr) (m cp : Nat) (z : List Int) (w : World) (h : AbS w O s gv gl gd a N) (hO : ∀ k, w.heap.size ≤ k → O k) (hr : Rd w ao m cp z) (hl : (a.L k).length + m ≤ 100) :
    Calls Tryz.prog 18 #[.pointer (some ⟨gl, 0, none⟩), k3E k, .slice ao m cp] w fun e w' => e = .returned (.int .i64 0) ∧ AbS w' O s gv gl gd ⟨a.V, updR a.L k (a.L k ++ z), a.D⟩ (N + 1) ∧ Tch O w w' := by
  obtain ⟨X, q1, q2, q3⟩ := StaS.onL h hO
  refine (listPush X gl N a.L k ao m cp z _ q1 q2 hr (by omega)).mono ?_
  rw [if_pos hl, if_pos hl]
  rintro e w' ⟨r1, r2, r3⟩
  obtain ⟨p1, p2⟩ := q3 w' _ r2 r3
  exact ⟨r1, p1, p2⟩
theorem stClear (O : Nat → Prop) (s gv gl gd N : Nat) (a : Ab) (k : K3) (w : World) (h : AbS w O s gv gl gd a N) (hO : ∀ k, w.heap.size ≤ k → O k) :
    Calls Tryz.prog 52 #[.pointer (some ⟨gl, 0, none⟩), k3E k] w fun e w' => e = .returned (.int .i64 (a.L k).length) ∧ AbS w' O s gv gl gd ⟨a.V, updR a.L k [], a.D⟩ (N + 1) ∧ Tch O w w' := by
  obtain ⟨X, q1, q2, q3⟩ := StaS.onL h hO
  refine (listClear X gl N a.L k _ q1).mono ?_
  rintro e w' ⟨r1, r2, r3⟩
  obtain ⟨p1, p2⟩ := q3 w' _ (r2.more (Nat.le_succ _)) r3
  exact ⟨r1, p1, p2⟩

/-- PutField does what it should, at whatever key. -/
def PutOK : Prop := ∀ (O : Nat → Prop) (g N : Nat) (fd : K3 → List (Int × Int)) (k : K3) (f n : Int) (w : World), DiS w O g fd N → (∀ k, w.heap.size ≤ k → O k) → RiseF (fd k) → (fd k).length ≤ 100 → 0 ≤ f → f < 8 →
  Calls Tryz.prog 6 #[.pointer (some ⟨g, 0, none⟩), k3E k, .int .i64 f, .int .i64 n] w fun e w' => e = .returned (.int .i64 0) ∧ DiS w' O g (updR fd k (putF (fd k) f n)) (N + 1) ∧ Tch O w w'
theorem stPut (hp : PutOK) (O : Nat → Prop) (s gv gl gd N : Nat) (a : Ab) (k : K3) (f n : Int) (w : World) (h : AbS w O s gv gl gd a N) (hO : ∀ k, w.heap.size ≤ k → O k) (hr : RiseF (a.D k)) (hl : (a.D k).length ≤ 100) (h0 : 0 ≤ f) (h8 : f < 8) :
    Calls Tryz.prog 6 #[.pointer (some ⟨gd, 0, none⟩), k3E k, .int .i64 f, .int .i64 n] w fun e w' => e = .returned (.int .i64 0) ∧ AbS w' O s gv gl gd ⟨a.V, a.L, updR a.D k (putF (a.D k) f n)⟩ (N + 1) ∧ Tch O w w' := by
  obtain ⟨X, q1, q2, q3⟩ := StaS.onD h hO
  refine (hp X gd N a.D k f n _ q1 q2 hr hl h0 h8).mono ?_
  rintro e w' ⟨r1, r2, r3⟩
  obtain ⟨p1, p2⟩ := q3 w' _ r2 r3
  exact ⟨r1, p1, p2⟩
/-- CutField does what it should. -/
def CutOK : Prop := ∀ (O : Nat → Prop) (g N : Nat) (fd : K3 → List (Int × Int)) (k : K3) (f : Int) (w : World), DiS w O g fd N → (∀ k, w.heap.size ≤ k → O k) → RiseF (fd k) → (fd k).length ≤ 100 →
  Calls Tryz.prog 7 #[.pointer (some ⟨g, 0, none⟩), k3E k, .int .i64 f] w fun e w' => e = .returned (.bool (hasT (fd k) f)) ∧ DiS w' O g (updR fd k (cutF (fd k) f)) (N + 1) ∧ Tch O w w'
theorem stCut (hp : CutOK) (O : Nat → Prop) (s gv gl gd N : Nat) (a : Ab) (k : K3) (f : Int) (w : World) (h : AbS w O s gv gl gd a N) (hO : ∀ k, w.heap.size ≤ k → O k) (hr : RiseF (a.D k)) (hl : (a.D k).length ≤ 100) :
    Calls Tryz.prog 7 #[.pointer (some ⟨gd, 0, none⟩), k3E k, .int .i64 f] w fun e w' => e = .returned (.bool (hasT (a.D k) f)) ∧ AbS w' O s gv gl gd ⟨a.V, a.L, updR a.D k (cutF (a.D k) f)⟩ (N + 1) ∧ Tch O w w' := by
  obtain ⟨X, q1, q2, q3⟩ := StaS.onD h hO
  refine (hp X gd N a.D k f _ q1 q2 hr hl).mono ?_
  rintro e w' ⟨r1, r2, r3⟩
  obtain ⟨p1, p2⟩ := q3 w' _ r2 r3
  exact ⟨r1, p1, p2⟩

/-- Keys told anew: how many there are. -/
theorem VlS.fit {w : World} {O : Nat → Prop} {g N : Nat} {f : K3 → Option Int} (h : VlS w O g f N) {ks : List K3} (hk : ∀ k, f k ≠ none → k ∈ ks) : VlS w O g f ks.length := by
  obtain ⟨mo, l, c, h⟩ := h
  refine ⟨mo, l, c, h.obj, h.own, h.made, h.none, h.at', ?_⟩
  rw [← List.length_map (f := Ent.k)]
  cases mo with
  | none => rw [h.none rfl]; simp
  | some r =>
    refine nodup_le (h.made r rfl).2.2.keys (fun k hm => hk k (fun e => ?_))
    rw [atE_key, h.at' k, e] at hm
    exact hm rfl
theorem RmS.fit {α : Type} {T e : TypeId} {sz : Nat} {C : α → List Value} {w : World} {O : Nat → Prop} {g N : Nat} {f : K3 → List α} (h : RmS T e sz C w O g f N) {ks : List K3} (hk : ∀ k, f k ≠ [] → k ∈ ks) : RmS T e sz C w O g f ks.length := by
  obtain ⟨mo, l, c, h⟩ := h
  refine ⟨mo, l, c, h.obj, h.own, h.made, h.nomap, h.row, h.non, h.sep, ?_⟩
  rw [← List.length_map (f := Ent.k)]
  cases mo with
  | none => rw [h.nomap rfl]; simp
  | some r => exact nodup_le (h.made r rfl).2.2.keys (fun k hm => hk k ((h.mem k).1 hm))
theorem StaS.fit {w : World} {O : Nat → Prop} {s gv gl gd N : Nat} {a : Ab} (h : AbS w O s gv gl gd a N) {ks : List K3} (hk : ∀ k, (a.V k ≠ none ∨ a.L k ≠ [] ∨ a.D k ≠ []) → k ∈ ks) : AbS w O s gv gl gd a ks.length := by
  obtain ⟨A, B, C, h⟩ := h
  exact ⟨A, B, C, h.obj, h.own, h.v.fit (fun k e => hk k (Or.inl e)), h.l.fit (fun k e => hk k (Or.inr (Or.inl e))), h.d.fit (fun k e => hk k (Or.inr (Or.inr e))), h.sub, h.ab, h.ac, h.bc⟩

/-- One cell filled in. -/
def putD (D : K3 → List (Int × Int)) (k : K3) (d : List (Int × Int)) : K3 → List (Int × Int) := d.foldl (fun D p => updR D k (putF (D k) p.1 p.2)) D
def fillQ (a : Ab) (c : Cl) : Ab := ⟨if c.v.isSome = true then updK a.V c.k (some (c.v.getD 0)) else a.V, updR a.L c.k (a.L c.k ++ c.l), putD a.D c.k c.d⟩
def fillA (a : Ab) (cs : List Cl) : Ab := cs.foldl fillQ a
theorem fillA_take (a : Ab) {cs : List Cl} {n : Nat} {c : Cl} (h : cs[n]? = some c) : fillA a (cs.take (n + 1)) = fillQ (fillA a (cs.take n)) c := by
  obtain ⟨hk, rfl⟩ := List.getElem?_eq_some_iff.1 h
  unfold fillA
  rw [List.take_succ_eq_append_getElem hk, List.foldl_append]
  rfl
theorem putD_take (D : K3 → List (Int × Int)) (k : K3) {d : List (Int × Int)} {n : Nat} {p : Int × Int} (h : d[n]? = some p) : putD D k (d.take (n + 1)) = updR (putD D k (d.take n)) k (putF (putD D k (d.take n) k) p.1 p.2) := by
  obtain ⟨hk, rfl⟩ := List.getElem?_eq_some_iff.1 h
  unfold putD
  rw [List.take_succ_eq_append_getElem hk, List.foldl_append]
  rfl
theorem putD_nil (D : K3 → List (Int × Int)) (k : K3) : putD D k [] = D := rfl

/-- The pure part of Copy: a state filled with another one's cells is that one. -/
theorem low_all {z : List (Int × Int)} {t : Int} (h : ∀ p ∈ z, p.1 < t) : lowF z t = z.length := by
  unfold lowF
  rw [List.countP_eq_length]
  intro p hp
  simpa using h p hp
theorem putF_last {z : List (Int × Int)} {f v : Int} (h : ∀ p ∈ z, p.1 < f) : putF z f v = z ++ [(f, v)] := by
  have hl := low_all h
  have hh : hasT z f = false := by unfold hasT; rw [hl, List.getElem?_eq_none (Nat.le_refl _)]
  unfold putF
  rw [hh, hl]
  simp
theorem putD_rise (k : K3) : ∀ (d z : List (Int × Int)) (D : K3 → List (Int × Int)), D k = z → RiseF (z ++ d) → putD D k d = updR D k (z ++ d) := by
  intro d
  induction d with
  | nil => intro z D hz _; rw [putD_nil, List.append_nil, ← hz, updR_self]
  | cons p d ih =>
    intro z D hz hr
    have hlt : ∀ q ∈ z, q.1 < p.1 := fun q hq => (List.pairwise_append.1 hr).2.2 q hq p (by simp)
    have e : putF (D k) p.1 p.2 = z ++ [p] := by rw [hz, putF_last hlt]
    have step : putD D k (p :: d) = putD (updR D k (z ++ [p])) k d := by
      unfold putD
      rw [List.foldl_cons, e]
    rw [step, ih (z ++ [p]) (updR D k (z ++ [p])) (by simp [updR]) (by simpa using hr)]
    funext b
    unfold updR
    by_cases eb : b = k
    · simp [eb]
    · simp [eb]

def ab0 : Ab := ⟨fun _ => none, fun _ => [], fun _ => []⟩
theorem fillQ_at (a b : Ab) (ha : ∀ k, RiseF (a.D k)) (x : K3) (h1 : b.V x = none) (h2 : b.L x = []) (h3 : b.D x = []) (k : K3) :
    (fillQ b (a.at x)).V k = (if k = x then a.V x else b.V k) ∧ (fillQ b (a.at x)).L k = (if k = x then a.L x else b.L k) ∧ (fillQ b (a.at x)).D k = (if k = x then a.D x else b.D k) := by
  have hd3 : (fillQ b (a.at x)).D = updR b.D x (a.D x) := by
    show putD b.D x (a.D x) = _
    rw [putD_rise x (a.D x) [] b.D h3 (by simpa using ha x)]
    simp
  rw [hd3]
  refine ⟨?_, ?_, rfl⟩
  · show (if (a.V x).isSome = true then updK b.V x (some ((a.V x).getD 0)) else b.V) k = _
    by_cases e : k = x
    · subst e
      rw [if_pos rfl]
      cases hv : a.V k with
      | none => simpa using h1
      | some n => simp [updK]
    · rw [if_neg e]
      split
      · simp [updK, e]
      · rfl
  · show updR b.L x (b.L x ++ a.L x) k = _
    rw [h2]
    rfl
theorem fill_some (a : Ab) (ha : ∀ k, RiseF (a.D k)) : ∀ (ks : List K3) (b : Ab), ks.Nodup → (∀ k ∈ ks, b.V k = none ∧ b.L k = [] ∧ b.D k = []) → ∀ k, (fillA b (ks.map a.at)).V k = (if k ∈ ks then a.V k else b.V k) ∧ (fillA b (ks.map a.at)).L k = (if k ∈ ks then a.L k else b.L k) ∧ (fillA b (ks.map a.at)).D k = (if k ∈ ks then a.D k else b.D k) := by
  intro ks
  induction ks with
  | nil => intro b _ _ k; simp [fillA]
  | cons x ks ih =>
    intro b hn hb k
    obtain ⟨hx, hn1⟩ := List.nodup_cons.1 hn
    obtain ⟨b1, b2, b3⟩ := hb x (by simp)
    have hat := fillQ_at a b ha x b1 b2 b3
    have e : fillA b ((x :: ks).map a.at) = fillA (fillQ b (a.at x)) (ks.map a.at) := rfl
    rw [e]
    have ih' := ih (fillQ b (a.at x)) hn1 (fun y hy => by
      have hyx : ¬ y = x := fun e => hx (e ▸ hy)
      obtain ⟨q1, q2, q3⟩ := hat y
      rw [if_neg hyx] at q1 q2 q3
      obtain ⟨r1, r2, r3⟩ := hb y (List.mem_cons_of_mem _ hy)
      exact ⟨q1.trans r1, q2.trans r2, q3.trans r3⟩) k
    obtain ⟨i1, i2, i3⟩ := ih'
    obtain ⟨q1, q2, q3⟩ := hat k
    rw [i1, i2, i3, q1, q2, q3]
    by_cases ek : k = x
    · subst ek; simp
    · by_cases em : k ∈ ks
      · simp [em]
      · simp [em, ek]
theorem fill_all (a : Ab) (ha : ∀ k, RiseF (a.D k)) {ks : List K3} (hk : Kof a ks) : fillA ab0 (ks.map a.at) = a := by
  have h := fill_some a ha ks ab0 hk.1.nodup (fun _ _ => ⟨rfl, rfl, rfl⟩)
  obtain ⟨V, L, D⟩ := a
  generalize fillA ab0 (ks.map (Ab.at ⟨V, L, D⟩)) = b at *
  obtain ⟨bV, bL, bD⟩ := b
  simp only [Ab.mk.injEq]
  have hh : ∀ k, bV k = V k ∧ bL k = L k ∧ bD k = D k := fun k => by
    obtain ⟨h1, h2, h3⟩ := h k
    by_cases hm : k ∈ ks
    · rw [if_pos hm] at h1 h2 h3; exact ⟨h1, h2, h3⟩
    · rw [if_neg hm] at h1 h2 h3
      have := hk.not hm
      exact ⟨h1.trans this.1.symm, h2.trans this.2.1.symm, h3.trans this.2.2.symm⟩
  exact ⟨funext fun k => (hh k).1, funext fun k => (hh k).2.1, funext fun k => (hh k).2.2⟩
end Go.Proofs.YtdogecaonlmalaaGreat

namespace Go.Proofs.YtdogecaonlmalaaGreat
open Go.RowKit Go.MapKept Go.ChangeMaps

/-- The cells stay, whatever a state does whose blocks are none of theirs. -/
structure Apart (w : World) (O : Nat → Prop) (v : Value) (xs : List Cr) : Prop where
  row : ∀ k, v.ownBlock = some k → ¬ O k
  la : ∀ x ∈ xs, ∀ k, x.la.ownBlock = some k → ¬ O k
  da : ∀ x ∈ xs, ∀ k, x.da.ownBlock = some k → ¬ O k
theorem OwnR.tch {O : Nat → Prop} {w w' : World} {B : Nat} {v : Value} {xs : List Cr} (h : OwnR w B v xs) (ha : Apart w O v xs) (ht : Tch O w w') : OwnR w' B v xs :=
  ⟨own_tch ht h.row (fun k hk => ha.row k hk), fun x hx => ⟨own_tch ht (h.all x hx).la (fun k hk => ha.la x hx k hk), own_tch ht (h.all x hx).da (fun k hk => ha.da x hx k hk)⟩⟩

theorem Apart.sub {w : World} {O O' : Nat → Prop} {v : Value} {xs : List Cr} (h : Apart w O v xs) (hO : ∀ k, O' k → O k) : Apart w O' v xs :=
  ⟨fun k hk e => h.row k hk (hO k e), fun x hx k hk e => h.la x hx k hk (hO k e), fun x hx k hk e => h.da x hx k hk (hO k e)⟩

/-- In the midst of filling: the state, the cells, the blocks E that are the walk's own. -/
structure Mid (w W : World) (O E : Nat → Prop) (s gv gl gd : Nat) (b : Ab) (M B : Nat) (v : Value) (xs : List Cr) : Prop where
  st : AbS W (fun j => O j ∧ ¬ E j) s gv gl gd b M
  lt : ∀ j, E j → j < W.heap.size
  row : OwnR W B v xs
  tch : Tch O w W
section
variable {w W : World} {O E : Nat → Prop} {s gv gl gd M B : Nat} {b : Ab} {v : Value} {xs : List Cr}
theorem Mid.later {W' : World} (h : Mid w W O E s gv gl gd b M B v xs) (hb : Below W.heap.size W W') : Mid w W' O E s gv gl gd b M B v xs :=
  ⟨StaS.later h.st hb, fun j hj => Nat.lt_of_lt_of_le (h.lt j hj) hb.size, h.row.later hb, h.tch.trans (Below.tch hb)⟩
theorem Mid.drew (h : Mid w W O E s gv gl gd b M B v xs) : Mid w W.drew O E s gv gl gd b M B v xs := h.later (Below.refl _ _).drew
theorem Mid.box (h : Mid w W O E s gv gl gd b M B v xs) (o : Obj) : Mid w (W.alloc o) O (fun j => E j ∨ j = W.heap.size) s gv gl gd b M B v xs := by
  have hb := below_alloc W o W.heap.size (Nat.le_refl _)
  have h1 := h.later hb
  refine ⟨StaS.later (StaS.wide h.st (O' := fun j => O j ∧ ¬ (E j ∨ j = W.heap.size)) (fun j hj hl => ⟨hj.1, fun e => ?_⟩)) hb, ?_, h1.row, h1.tch⟩
  · rcases e with e | e
    · exact hj.2 e
    · omega
  · rintro j (e | e)
    · exact h1.lt j e
    · subst e; simp
theorem Mid.drop {E' : Nat → Prop} (h : Mid w W O E s gv gl gd b M B v xs) (hE : ∀ j, E' j → E j) : Mid w W O E' s gv gl gd b M B v xs :=
  ⟨StaS.wide h.st (fun j hj _ => ⟨hj.1, fun e => hj.2 (hE j e)⟩), fun j hj => h.lt j (hE j hj), h.row, h.tch⟩
theorem Mid.turn {W' : World} {b' : Ab} {M' : Nat} (h : Mid w W O E s gv gl gd b M B v xs) (hA : Apart w O v xs) (hs : AbS W' (fun j => O j ∧ ¬ E j) s gv gl gd b' M') (ht : Tch (fun j => O j ∧ ¬ E j) W W') : Mid w W' O E s gv gl gd b' M' B v xs :=
  ⟨hs, fun j hj => Nat.lt_of_lt_of_le (h.lt j hj) ht.size, OwnR.tch h.row ⟨fun k hk e => hA.row k hk e.1, fun x hx k hk e => hA.la x hx k hk e.1, fun x hx k hk e => hA.da x hx k hk e.1⟩ ht, h.tch.trans (ht.mono (fun _ _ e => e.1))⟩
theorem Mid.out (h : Mid w W O E s gv gl gd b M B v xs) (hO : ∀ k, w.heap.size ≤ k → O k) : ∀ k, W.heap.size ≤ k → O k ∧ ¬ E k :=
  fun k hk => ⟨hO k (Nat.le_trans h.tch.size hk), fun e => by have := h.lt k e; omega⟩
end

/-- The cells that a round of fill reads. -/
theorem mid_cells {w' : World} {s gv gl gd bx : Nat} {xk : K3} {xh : Bool} {xn : Int} {xla xda : Value} (h : w'.heap[s]? = some (staO gv gl gd)) (hx : w'.heap[bx]? = some (.cells #[.int .i64 xk.g, .int .i64 xk.n, .int .i64 xk.i, .bool xh, .int .i64 xn, xla, xda] 65 (0, 0))) :
    w'.cell? ⟨s, 0, none⟩ = some (.pointer (some ⟨gv, 0, none⟩)) ∧ w'.cell? ⟨s, 1, none⟩ = some (.pointer (some ⟨gl, 0, none⟩)) ∧ w'.cell? ⟨s, 2, none⟩ = some (.pointer (some ⟨gd, 0, none⟩)) ∧ w'.cell? ⟨bx, 0, none⟩ = some (.int .i64 xk.g) ∧ w'.cell? ⟨bx, 1, none⟩ = some (.int .i64 xk.n) ∧ w'.cell? ⟨bx, 2, none⟩ = some (.int .i64 xk.i) ∧ w'.cell? ⟨bx, 3, none⟩ = some (.bool xh) ∧ w'.cell? ⟨bx, 4, none⟩ = some (.int .i64 xn) ∧ w'.cell? ⟨bx, 5, none⟩ = some xla ∧ w'.cell? ⟨bx, 6, none⟩ = some xda :=
  let a := sta_cells h
  let b := cells_seven hx
  ⟨a.1, a.2.1, a.2.2, b⟩
theorem mid_cells2 {w' : World} {s gv gl gd bx bf : Nat} {xk : K3} {xh : Bool} {xn : Int} {xla xda : Value} {ff fn : Int} (h : w'.heap[s]? = some (staO gv gl gd)) (hx : w'.heap[bx]? = some (.cells #[.int .i64 xk.g, .int .i64 xk.n, .int .i64 xk.i, .bool xh, .int .i64 xn, xla, xda] 65 (0, 0))) (hf : w'.heap[bf]? = some (fdO (ff, fn))) :
    w'.cell? ⟨s, 0, none⟩ = some (.pointer (some ⟨gv, 0, none⟩)) ∧ w'.cell? ⟨s, 1, none⟩ = some (.pointer (some ⟨gl, 0, none⟩)) ∧ w'.cell? ⟨s, 2, none⟩ = some (.pointer (some ⟨gd, 0, none⟩)) ∧ w'.cell? ⟨bx, 0, none⟩ = some (.int .i64 xk.g) ∧ w'.cell? ⟨bx, 1, none⟩ = some (.int .i64 xk.n) ∧ w'.cell? ⟨bx, 2, none⟩ = some (.int .i64 xk.i) ∧ w'.cell? ⟨bx, 3, none⟩ = some (.bool xh) ∧ w'.cell? ⟨bx, 4, none⟩ = some (.int .i64 xn) ∧ w'.cell? ⟨bx, 5, none⟩ = some xla ∧ w'.cell? ⟨bx, 6, none⟩ = some xda ∧ w'.cell? ⟨bf, 0, none⟩ = some (.int .i64 ff) ∧ w'.cell? ⟨bf, 1, none⟩ = some (.int .i64 fn) := by
  obtain ⟨a0, a1, a2⟩ := sta_cells h
  obtain ⟨b0, b1, b2, b3, b4, b5, b6⟩ := cells_seven hx
  refine ⟨a0, a1, a2, b0, b1, b2, b3, b4, b5, b6, ?_, ?_⟩ <;> simp [World.cell?, hf, fdO]

/-- What filling asks: lists have room; fields come rising, or there are none. -/
structure FillOK (a : Ab) (cs : List Cl) : Prop where
  room : ∀ n c, cs[n]? = some c → ((fillA a (cs.take n)).L c.k).length + c.l.length ≤ 100
  dict : PutOK ∧ (∀ n c, cs[n]? = some c → ∀ m, RiseF (putD (fillA a (cs.take n)).D c.k (c.d.take m) c.k) ∧ (putD (fillA a (cs.take n)).D c.k (c.d.take m) c.k).length ≤ 100) ∧ (∀ c ∈ cs, ∀ p ∈ c.d, 0 ≤ p.1 ∧ p.1 < 8) ∨ ∀ c ∈ cs, c.d = []
  short : ∀ c ∈ cs, c.d.length ≤ 1000

set_option maxRecDepth 100000 in
set_option maxHeartbeats 8000000 in
/-- fill. -/
theorem fill_any (O : Nat → Prop) (s gv gl gd : Nat) (a : Ab) (N B : Nat) (v : Value) (xs : List Cr) (w : World) (h : AbS w O s gv gl gd a N) (hO : ∀ k, w.heap.size ≤ k → O k) (hX : OwnR w B v xs) (hA : Apart w O v xs) (hf : FillOK a (xs.map Cr.c)) (hlen : xs.length ≤ 100000) :
    Calls Tryz.prog 42 #[.pointer (some ⟨s, 0, none⟩), v] w fun e w' => e = .returned (.tuple #[]) ∧ (∃ M, AbS w' O s gv gl gd (fillA a (xs.map Cr.c)) M) ∧ Tch O w w' := by
  have HO := hide hO
  have HA := hide hA
  have HF := hide hf
  have HM0 : Hid (Mid w w O (fun _ => False) s gv gl gd (fillA a ((xs.map Cr.c).take 0)) N B v xs) := ⟨StaS.wide h (fun j hj _ => ⟨hj, fun e => e⟩), fun _ e => e.elim, hX, Below.tch (Below.refl _ _)⟩
  obtain ⟨pa, cp, rfl⟩ : ∃ pa cp, v = .slice pa xs.length cp := by
    rcases hX.slice with ⟨rfl, rfl⟩ | ⟨g, cp, rfl, _⟩
    · exact ⟨_, _, rfl⟩
    · exact ⟨_, _, rfl⟩
  clear h hO hX hA hf
  go_enter Tryz.func42, Tryz.ntmps42
  go_wp2_with fail
  go_loopw [10] (fun i wr => ∃ n M : Nat, n ≤ xs.length ∧ i = .int .i64 n ∧ Hid (Mid w wr O (fun _ => False) s gv gl gd (fillA a ((xs.map Cr.c).take n)) M B (.slice pa xs.length cp) xs)) (fun i _ => xs.length - (intOf i).toNat)
  case atStart => exact ⟨0, N, by omega, rfl, HM0⟩
  case round =>
    clear HM0
    obtain ⟨n, M, hn, rfl, HM⟩ := hrel
    by_cases hlt : n < xs.length
    · obtain ⟨x, hx⟩ : ∃ x, xs[n]? = some x := ⟨_, List.getElem?_eq_getElem hlt⟩
      have hc : (xs.map Cr.c)[n]? = some x.c := by rw [List.getElem?_map, hx]; rfl
      obtain ⟨g, rfl, hcp⟩ : ∃ g, pa = some ⟨g, 0, none⟩ ∧ xs.length ≤ cp := by
        rcases HM.out.row.slice with ⟨_, e⟩ | ⟨g, cp', e, h, _⟩
        · rw [e] at hlt; simp at hlt
        · simp at e; exact ⟨g, e.1, by omega⟩
      obtain ⟨⟨xk, xv, xl, xd⟩, xla, xda⟩ := x
      obtain ⟨lx, cx, ex, _⟩ := RowI.slice (HM.out.row.all _ (List.mem_of_getElem? hx)).la.row
      obtain ⟨dx, fx, gx, _⟩ := RowF.rd (HM.out.row.all _ (List.mem_of_getElem? hx)).da.row
      simp only at ex gx
      subst ex
      subst gx
      obtain ⟨p0, p1, p2, p3, p4, p5, p6⟩ := HM.out.row.at hx
      simp only at p0 p1 p2 p3 p4 p5 p6
      have HB0 := hide (HM.out.box (crO (⟨⟨xk, xv, xl, xd⟩, .slice lx xl.length cx, .slice dx xd.length fx⟩ : Cr)))
      have hbox := heap_alloc_new wr (crO (⟨⟨xk, xv, xl, xd⟩, .slice lx xl.length cx, .slice dx xd.length fx⟩ : Cr))
      have HXM : Hid ((⟨⟨xk, xv, xl, xd⟩, .slice lx xl.length cx, .slice dx xd.length fx⟩ : Cr) ∈ xs) := List.mem_of_getElem? hx
      have HCM : Hid ((⟨xk, xv, xl, xd⟩ : Cl) ∈ xs.map Cr.c) := List.mem_map.2 ⟨_, HXM.out, rfl⟩
      have HTK := hide (fillA_take a hc)
      have HRM : Hid (((fillA a ((xs.map Cr.c).take n)).L xk).length + xl.length ≤ 100) := HF.out.room n _ hc
      have HDK : Hid ((PutOK ∧ (∀ m, RiseF (putD (fillA a ((xs.map Cr.c).take n)).D xk (xd.take m) xk) ∧ (putD (fillA a ((xs.map Cr.c).take n)).D xk (xd.take m) xk).length ≤ 100) ∧ (∀ p ∈ xd, 0 ≤ p.1 ∧ p.1 < 8)) ∨ xd = []) := by
        rcases HF.out.dict with ⟨d1, d2, d3⟩ | d
        · exact Or.inl ⟨d1, d2 n _ hc, d3 _ HCM.out⟩
        · exact Or.inr (d _ HCM.out)
      have hds : xd.length ≤ 1000 := HF.out.short _ HCM.out
      clear hc hx HM HCM
      generalize fillA a ((xs.map Cr.c).take n) = b at *
      cases xv with
      | none =>
        have HC2 : Hid (∀ W M b, Mid w W O (fun j => False ∨ j = wr.heap.size) s gv gl gd b M B (.slice (some ⟨g, 0, none⟩) xs.length cp) xs → W.heap[wr.heap.size]? = some (crO (⟨⟨xk, none, xl, xd⟩, .slice lx xl.length cx, .slice dx xd.length fx⟩ : Cr)) → (b.L xk).length + xl.length ≤ 100 → Calls Tryz.prog 18 #[.pointer (some ⟨gl, 0, none⟩), k3E xk, .slice lx xl.length cx] W fun e w' => e = .returned (.int .i64 0) ∧ Hid (Mid w w' O (fun j => False ∨ j = wr.heap.size) s gv gl gd ⟨b.V, updR b.L xk (b.L xk ++ xl), b.D⟩ (M + 1) B (.slice (some ⟨g, 0, none⟩) xs.length cp) xs ∧ w'.heap[wr.heap.size]? = some (crO (⟨⟨xk, none, xl, xd⟩, .slice lx xl.length cx, .slice dx xd.length fx⟩ : Cr))) ∧ (w'.cell? ⟨s, 0, none⟩ = some (.pointer (some ⟨gv, 0, none⟩)) ∧ w'.cell? ⟨s, 1, none⟩ = some (.pointer (some ⟨gl, 0, none⟩)) ∧ w'.cell? ⟨s, 2, none⟩ = some (.pointer (some ⟨gd, 0, none⟩)) ∧ w'.cell? ⟨wr.heap.size, 0, none⟩ = some (.int .i64 xk.g) ∧ w'.cell? ⟨wr.heap.size, 1, none⟩ = some (.int .i64 xk.n) ∧ w'.cell? ⟨wr.heap.size, 2, none⟩ = some (.int .i64 xk.i) ∧ w'.cell? ⟨wr.heap.size, 3, none⟩ = some (.bool false) ∧ w'.cell? ⟨wr.heap.size, 4, none⟩ = some (.int .i64 0) ∧ w'.cell? ⟨wr.heap.size, 5, none⟩ = some (.slice lx xl.length cx) ∧ w'.cell? ⟨wr.heap.size, 6, none⟩ = some (.slice dx xd.length fx))) := fun W M b hM hbx hr => by
          obtain ⟨lx', cx', e', rd, _⟩ := RowI.slice (hM.row.all _ HXM.out).la.row
          obtain ⟨rfl, rfl⟩ : lx = lx' ∧ cx = cx' := by simpa using e'
          refine (stPush _ s gv gl gd M b xk _ _ _ xl W hM.st (hM.out HO.out) rd hr).mono ?_
          rintro e w' ⟨r1, r2, r3⟩
          have m' := hM.turn HA.out r2 r3
          have hb' := r3.old hbx (fun e => e.2 (Or.inr rfl))
          exact ⟨r1, ⟨m', hb'⟩, mid_cells (StaS.obj m'.st) hb'⟩
        have s0 := mid_cells (StaS.obj HB0.out.st) hbox
        have HBX := hide hbox
        clear hbox
        unfold k3E at *
        unfold crO at *
        simp only [Option.isSome_none, Option.getD_none] at *
        go_wp2
        generalize wr.heap.size = bx at *
        go_region_held3 (fun w' => w'.cell? ⟨s, 0, none⟩ = some (.pointer (some ⟨gv, 0, none⟩)) ∧ w'.cell? ⟨s, 1, none⟩ = some (.pointer (some ⟨gl, 0, none⟩)) ∧ w'.cell? ⟨s, 2, none⟩ = some (.pointer (some ⟨gd, 0, none⟩)) ∧ w'.cell? ⟨bx, 0, none⟩ = some (.int .i64 xk.g) ∧ w'.cell? ⟨bx, 1, none⟩ = some (.int .i64 xk.n) ∧ w'.cell? ⟨bx, 2, none⟩ = some (.int .i64 xk.i) ∧ w'.cell? ⟨bx, 3, none⟩ = some (.bool false) ∧ w'.cell? ⟨bx, 4, none⟩ = some (.int .i64 0) ∧ w'.cell? ⟨bx, 5, none⟩ = some (.slice lx xl.length cx) ∧ w'.cell? ⟨bx, 6, none⟩ = some (.slice dx xd.length fx)) (first | exact s0 | exact s2 | go_keep) ((go_at_call 18; refine (HC2.out _ _ _ HB0.out.drew HBX.out HRM.out).mono ?_; rintro e W2 ⟨rfl, HM2, s2⟩))
        all_goals
          clear HC2 s0 HB0 HBX
          obtain ⟨t0, t1, t2, t3, t4, t5, t6, t7, t8, t9⟩ := s2
          clear p0 p1 p2 p3 p4 p5 p6
          go_wp2
          go_loopw [37] (fun i wr => ∃ m M2 : Nat, m ≤ xd.length ∧ i = .int .i64 m ∧ Hid (Mid w wr O (fun j => False ∨ j = bx) s gv gl gd ⟨b.V, updR b.L xk (b.L xk ++ xl), putD b.D xk (xd.take m)⟩ M2 B (.slice (some ⟨g, 0, none⟩) xs.length cp) xs ∧ wr.heap[bx]? = some (crO (⟨⟨xk, none, xl, xd⟩, .slice lx xl.length cx, .slice dx xd.length fx⟩ : Cr)))) (fun i _ => xd.length - (intOf i).toNat)
          case atStart => exact ⟨0, _, by omega, rfl, HM2⟩
          case round =>
            clear HM2 t0 t1 t2 t3 t4 t5 t6 t7 t8 t9
            obtain ⟨m, M2, hm, rfl, HI⟩ := hrel
            by_cases hlt2 : m < xd.length
            · obtain ⟨⟨ff, fn⟩, hp⟩ : ∃ p, xd[m]? = some p := ⟨_, List.getElem?_eq_getElem hlt2⟩
              obtain ⟨dx', fx', e', rd⟩ := RowF.rd (HI.out.1.row.all _ HXM.out).da.row
              obtain ⟨rfl, rfl⟩ : dx = dx' ∧ fx = fx' := by simpa using e'
              have rd : RdF wr dx xd.length fx xd := rd
              obtain ⟨bd, od, rfl, hc⟩ := rd.addr (by omega)
              obtain ⟨z0, z1⟩ := hc m _ hp
              have hfx := rd.le
              have HB2 := hide (HI.out.1.box (fdO (ff, fn)))
              have hbf := heap_alloc_new wr (fdO (ff, fn))
              have hbx2 : (wr.alloc (fdO (ff, fn))).heap[bx]? = some (crO (⟨⟨xk, none, xl, xd⟩, .slice lx xl.length cx, .slice (some ⟨bd, od, none⟩) xd.length fx⟩ : Cr)) := boxed_old HI.out.2 (below_alloc wr _ _ (Nat.le_refl _))
              have s3 := mid_cells2 (StaS.obj HB2.out.st) hbx2 hbf
              have HC3 : Hid (Calls Tryz.prog 6 #[.pointer (some ⟨gd, 0, none⟩), k3E xk, .int .i64 ff, .int .i64 fn] (wr.alloc (fdO (ff, fn))).drew fun e w' => e = .returned (.int .i64 0) ∧ Hid (Mid w w' O (fun j => False ∨ j = bx) s gv gl gd ⟨b.V, updR b.L xk (b.L xk ++ xl), putD b.D xk (xd.take (m + 1))⟩ (M2 + 1) B (.slice (some ⟨g, 0, none⟩) xs.length cp) xs ∧ w'.heap[bx]? = some (crO (⟨⟨xk, none, xl, xd⟩, .slice lx xl.length cx, .slice (some ⟨bd, od, none⟩) xd.length fx⟩ : Cr))) ∧ (w'.cell? ⟨s, 0, none⟩ = some (.pointer (some ⟨gv, 0, none⟩)) ∧ w'.cell? ⟨s, 1, none⟩ = some (.pointer (some ⟨gl, 0, none⟩)) ∧ w'.cell? ⟨s, 2, none⟩ = some (.pointer (some ⟨gd, 0, none⟩)) ∧ w'.cell? ⟨bx, 0, none⟩ = some (.int .i64 xk.g) ∧ w'.cell? ⟨bx, 1, none⟩ = some (.int .i64 xk.n) ∧ w'.cell? ⟨bx, 2, none⟩ = some (.int .i64 xk.i) ∧ w'.cell? ⟨bx, 3, none⟩ = some (.bool false) ∧ w'.cell? ⟨bx, 4, none⟩ = some (.int .i64 0) ∧ w'.cell? ⟨bx, 5, none⟩ = some (.slice lx xl.length cx) ∧ w'.cell? ⟨bx, 6, none⟩ = some (.slice (some ⟨bd, od, none⟩) xd.length fx) ∧ w'.cell? ⟨wr.heap.size, 0, none⟩ = some (.int .i64 ff) ∧ w'.cell? ⟨wr.heap.size, 1, none⟩ = some (.int .i64 fn))) := by
                rcases HDK.out with ⟨hpo, hri, hra⟩ | e0
                · have hmem := hra _ (List.mem_of_getElem? hp)
                  refine (stPut hpo _ s gv gl gd M2 _ xk ff fn _ HB2.out.drew.st (HB2.out.drew.out HO.out) (hri m).1 (hri m).2 hmem.1 hmem.2).mono ?_
                  rintro e w' ⟨r1, r2, r3⟩
                  have m' := HB2.out.drew.turn HA.out r2 r3
                  have hb' := r3.old (g := bx) hbx2 (fun e => e.2 (Or.inl (Or.inr rfl)))
                  have hf' := r3.old (g := wr.heap.size) hbf (fun e => e.2 (Or.inr rfl))
                  rw [putD_take b.D xk hp]
                  exact ⟨r1, ⟨m'.drop (fun j hj => Or.inl hj), hb'⟩, mid_cells2 (StaS.obj m'.st) hb' hf'⟩
                · rw [e0] at hlt2; simp at hlt2
              clear hc rd hp hbf hbx2 HB2 HI
              unfold k3E fdO crO at *
              simp only [Option.isSome_none, Option.getD_none] at *
              obtain ⟨t0, t1, t2, t3, t4, t5, t6, t7, t8, t9, t10, t11⟩ := s3
              have s3 := And.intro t0 (And.intro t1 (And.intro t2 (And.intro t3 (And.intro t4 (And.intro t5 (And.intro t6 (And.intro t7 (And.intro t8 (And.intro t9 (And.intro t10 t11))))))))))
              clear t0 t1 t2 t3 t4 t5 t6 t7 t8 t9 t10 t11
              go_wp2
              go_region_held3 (fun w' => w'.cell? ⟨s, 0, none⟩ = some (.pointer (some ⟨gv, 0, none⟩)) ∧ w'.cell? ⟨s, 1, none⟩ = some (.pointer (some ⟨gl, 0, none⟩)) ∧ w'.cell? ⟨s, 2, none⟩ = some (.pointer (some ⟨gd, 0, none⟩)) ∧ w'.cell? ⟨bx, 0, none⟩ = some (.int .i64 xk.g) ∧ w'.cell? ⟨bx, 1, none⟩ = some (.int .i64 xk.n) ∧ w'.cell? ⟨bx, 2, none⟩ = some (.int .i64 xk.i) ∧ w'.cell? ⟨bx, 3, none⟩ = some (.bool false) ∧ w'.cell? ⟨bx, 4, none⟩ = some (.int .i64 0) ∧ w'.cell? ⟨bx, 5, none⟩ = some (.slice lx xl.length cx) ∧ w'.cell? ⟨bx, 6, none⟩ = some (.slice (some ⟨bd, od, none⟩) xd.length fx) ∧ w'.cell? ⟨wr.heap.size, 0, none⟩ = some (.int .i64 ff) ∧ w'.cell? ⟨wr.heap.size, 1, none⟩ = some (.int .i64 fn)) (first | exact s3 | exact s4 | go_keep) ((go_at_call 6; refine HC3.out.mono ?_; rintro e W3 ⟨rfl, HM3, s4⟩))
              all_goals
                go_wp2
                exact ⟨⟨m + 1, M2 + 1, by omega, by simp, HM3⟩, by simp [intOf]; omega⟩
            · have HM4 : Hid (Mid w wr O (fun _ => False) s gv gl gd (fillA a ((xs.map Cr.c).take (n + 1))) M2 B (.slice (some ⟨g, 0, none⟩) xs.length cp) xs) := by
                have := HI.out.1.drop (E' := fun _ => False) (fun _ e => e.elim)
                rw [List.take_of_length_le (by omega)] at this
                show Mid _ _ _ _ _ _ _ _ _ _ _ _ _
                rw [HTK.out]
                exact this
              clear HI HTK HDK HRM
              go_wp2
              exact ⟨⟨n + 1, M2, by omega, by simp, HM4⟩, by simp [intOf]; omega⟩
      | some m0 =>
        have HC1 : Hid (∀ W M b, Mid w W O (fun j => False ∨ j = wr.heap.size) s gv gl gd b M B (.slice (some ⟨g, 0, none⟩) xs.length cp) xs → W.heap[wr.heap.size]? = some (crO (⟨⟨xk, (some m0), xl, xd⟩, .slice lx xl.length cx, .slice dx xd.length fx⟩ : Cr)) → Calls Tryz.prog 16 #[.pointer (some ⟨gv, 0, none⟩), k3E xk, .int .i64 m0] W fun e w' => e = .returned (.tuple #[]) ∧ Hid (Mid w w' O (fun j => False ∨ j = wr.heap.size) s gv gl gd ⟨updK b.V xk (some m0), b.L, b.D⟩ (M + 1) B (.slice (some ⟨g, 0, none⟩) xs.length cp) xs ∧ w'.heap[wr.heap.size]? = some (crO (⟨⟨xk, (some m0), xl, xd⟩, .slice lx xl.length cx, .slice dx xd.length fx⟩ : Cr))) ∧ (w'.cell? ⟨s, 0, none⟩ = some (.pointer (some ⟨gv, 0, none⟩)) ∧ w'.cell? ⟨s, 1, none⟩ = some (.pointer (some ⟨gl, 0, none⟩)) ∧ w'.cell? ⟨s, 2, none⟩ = some (.pointer (some ⟨gd, 0, none⟩)) ∧ w'.cell? ⟨wr.heap.size, 0, none⟩ = some (.int .i64 xk.g) ∧ w'.cell? ⟨wr.heap.size, 1, none⟩ = some (.int .i64 xk.n) ∧ w'.cell? ⟨wr.heap.size, 2, none⟩ = some (.int .i64 xk.i) ∧ w'.cell? ⟨wr.heap.size, 3, none⟩ = some (.bool true) ∧ w'.cell? ⟨wr.heap.size, 4, none⟩ = some (.int .i64 m0) ∧ w'.cell? ⟨wr.heap.size, 5, none⟩ = some (.slice lx xl.length cx) ∧ w'.cell? ⟨wr.heap.size, 6, none⟩ = some (.slice dx xd.length fx))) := fun W M b hM hbx => by
          refine (stSet _ s gv gl gd M b xk _ W hM.st (hM.out HO.out)).mono ?_
          rintro e w' ⟨r1, r2, r3⟩
          have m' := hM.turn HA.out r2 r3
          have hb' := r3.old hbx (fun e => e.2 (Or.inr rfl))
          exact ⟨r1, ⟨m', hb'⟩, mid_cells (StaS.obj m'.st) hb'⟩
        have HC2 : Hid (∀ W M b, Mid w W O (fun j => False ∨ j = wr.heap.size) s gv gl gd b M B (.slice (some ⟨g, 0, none⟩) xs.length cp) xs → W.heap[wr.heap.size]? = some (crO (⟨⟨xk, (some m0), xl, xd⟩, .slice lx xl.length cx, .slice dx xd.length fx⟩ : Cr)) → (b.L xk).length + xl.length ≤ 100 → Calls Tryz.prog 18 #[.pointer (some ⟨gl, 0, none⟩), k3E xk, .slice lx xl.length cx] W fun e w' => e = .returned (.int .i64 0) ∧ Hid (Mid w w' O (fun j => False ∨ j = wr.heap.size) s gv gl gd ⟨b.V, updR b.L xk (b.L xk ++ xl), b.D⟩ (M + 1) B (.slice (some ⟨g, 0, none⟩) xs.length cp) xs ∧ w'.heap[wr.heap.size]? = some (crO (⟨⟨xk, (some m0), xl, xd⟩, .slice lx xl.length cx, .slice dx xd.length fx⟩ : Cr))) ∧ (w'.cell? ⟨s, 0, none⟩ = some (.pointer (some ⟨gv, 0, none⟩)) ∧ w'.cell? ⟨s, 1, none⟩ = some (.pointer (some ⟨gl, 0, none⟩)) ∧ w'.cell? ⟨s, 2, none⟩ = some (.pointer (some ⟨gd, 0, none⟩)) ∧ w'.cell? ⟨wr.heap.size, 0, none⟩ = some (.int .i64 xk.g) ∧ w'.cell? ⟨wr.heap.size, 1, none⟩ = some (.int .i64 xk.n) ∧ w'.cell? ⟨wr.heap.size, 2, none⟩ = some (.int .i64 xk.i) ∧ w'.cell? ⟨wr.heap.size, 3, none⟩ = some (.bool true) ∧ w'.cell? ⟨wr.heap.size, 4, none⟩ = some (.int .i64 m0) ∧ w'.cell? ⟨wr.heap.size, 5, none⟩ = some (.slice lx xl.length cx) ∧ w'.cell? ⟨wr.heap.size, 6, none⟩ = some (.slice dx xd.length fx))) := fun W M b hM hbx hr => by
          obtain ⟨lx', cx', e', rd, _⟩ := RowI.slice (hM.row.all _ HXM.out).la.row
          obtain ⟨rfl, rfl⟩ : lx = lx' ∧ cx = cx' := by simpa using e'
          refine (stPush _ s gv gl gd M b xk _ _ _ xl W hM.st (hM.out HO.out) rd hr).mono ?_
          rintro e w' ⟨r1, r2, r3⟩
          have m' := hM.turn HA.out r2 r3
          have hb' := r3.old hbx (fun e => e.2 (Or.inr rfl))
          exact ⟨r1, ⟨m', hb'⟩, mid_cells (StaS.obj m'.st) hb'⟩
        have s0 := mid_cells (StaS.obj HB0.out.st) hbox
        have HBX := hide hbox
        clear hbox
        unfold k3E at *
        unfold crO at *
        simp only [Option.isSome_some, Option.getD_some] at *
        go_wp2
        generalize wr.heap.size = bx at *
        go_region_held3 (fun w' => w'.cell? ⟨s, 0, none⟩ = some (.pointer (some ⟨gv, 0, none⟩)) ∧ w'.cell? ⟨s, 1, none⟩ = some (.pointer (some ⟨gl, 0, none⟩)) ∧ w'.cell? ⟨s, 2, none⟩ = some (.pointer (some ⟨gd, 0, none⟩)) ∧ w'.cell? ⟨bx, 0, none⟩ = some (.int .i64 xk.g) ∧ w'.cell? ⟨bx, 1, none⟩ = some (.int .i64 xk.n) ∧ w'.cell? ⟨bx, 2, none⟩ = some (.int .i64 xk.i) ∧ w'.cell? ⟨bx, 3, none⟩ = some (.bool true) ∧ w'.cell? ⟨bx, 4, none⟩ = some (.int .i64 m0) ∧ w'.cell? ⟨bx, 5, none⟩ = some (.slice lx xl.length cx) ∧ w'.cell? ⟨bx, 6, none⟩ = some (.slice dx xd.length fx)) (first | exact s0 | exact s1 | go_keep) ((go_at_call 16; refine (HC1.out _ _ _ HB0.out.drew HBX.out).mono ?_; rintro e W1 ⟨rfl, HM1, s1⟩))
        all_goals
          clear HC1 s0 HB0 HBX
          go_wp2
          go_region_held3 (fun w' => w'.cell? ⟨s, 0, none⟩ = some (.pointer (some ⟨gv, 0, none⟩)) ∧ w'.cell? ⟨s, 1, none⟩ = some (.pointer (some ⟨gl, 0, none⟩)) ∧ w'.cell? ⟨s, 2, none⟩ = some (.pointer (some ⟨gd, 0, none⟩)) ∧ w'.cell? ⟨bx, 0, none⟩ = some (.int .i64 xk.g) ∧ w'.cell? ⟨bx, 1, none⟩ = some (.int .i64 xk.n) ∧ w'.cell? ⟨bx, 2, none⟩ = some (.int .i64 xk.i) ∧ w'.cell? ⟨bx, 3, none⟩ = some (.bool true) ∧ w'.cell? ⟨bx, 4, none⟩ = some (.int .i64 m0) ∧ w'.cell? ⟨bx, 5, none⟩ = some (.slice lx xl.length cx) ∧ w'.cell? ⟨bx, 6, none⟩ = some (.slice dx xd.length fx)) (first | exact s1 | exact s2 | go_keep) ((go_at_call 18; refine (HC2.out _ _ _ HM1.out.1.drew HM1.out.2 HRM.out).mono ?_; rintro e W2 ⟨rfl, HM2, s2⟩))
          all_goals
            clear HC2 s1 HM1
            obtain ⟨t0, t1, t2, t3, t4, t5, t6, t7, t8, t9⟩ := s2
            clear p0 p1 p2 p3 p4 p5 p6
            go_wp2
            go_loopw [37] (fun i wr => ∃ m M2 : Nat, m ≤ xd.length ∧ i = .int .i64 m ∧ Hid (Mid w wr O (fun j => False ∨ j = bx) s gv gl gd ⟨(updK b.V xk (some m0)), updR b.L xk (b.L xk ++ xl), putD b.D xk (xd.take m)⟩ M2 B (.slice (some ⟨g, 0, none⟩) xs.length cp) xs ∧ wr.heap[bx]? = some (crO (⟨⟨xk, (some m0), xl, xd⟩, .slice lx xl.length cx, .slice dx xd.length fx⟩ : Cr)))) (fun i _ => xd.length - (intOf i).toNat)
            case atStart => exact ⟨0, _, by omega, rfl, HM2⟩
            case round =>
              clear HM2 t0 t1 t2 t3 t4 t5 t6 t7 t8 t9
              obtain ⟨m, M2, hm, rfl, HI⟩ := hrel
              by_cases hlt2 : m < xd.length
              · obtain ⟨⟨ff, fn⟩, hp⟩ : ∃ p, xd[m]? = some p := ⟨_, List.getElem?_eq_getElem hlt2⟩
                obtain ⟨dx', fx', e', rd⟩ := RowF.rd (HI.out.1.row.all _ HXM.out).da.row
                obtain ⟨rfl, rfl⟩ : dx = dx' ∧ fx = fx' := by simpa using e'
                have rd : RdF wr dx xd.length fx xd := rd
                obtain ⟨bd, od, rfl, hc⟩ := rd.addr (by omega)
                obtain ⟨z0, z1⟩ := hc m _ hp
                have hfx := rd.le
                have HB2 := hide (HI.out.1.box (fdO (ff, fn)))
                have hbf := heap_alloc_new wr (fdO (ff, fn))
                have hbx2 : (wr.alloc (fdO (ff, fn))).heap[bx]? = some (crO (⟨⟨xk, (some m0), xl, xd⟩, .slice lx xl.length cx, .slice (some ⟨bd, od, none⟩) xd.length fx⟩ : Cr)) := boxed_old HI.out.2 (below_alloc wr _ _ (Nat.le_refl _))
                have s3 := mid_cells2 (StaS.obj HB2.out.st) hbx2 hbf
                have HC3 : Hid (Calls Tryz.prog 6 #[.pointer (some ⟨gd, 0, none⟩), k3E xk, .int .i64 ff, .int .i64 fn] (wr.alloc (fdO (ff, fn))).drew fun e w' => e = .returned (.int .i64 0) ∧ Hid (Mid w w' O (fun j => False ∨ j = bx) s gv gl gd ⟨(updK b.V xk (some m0)), updR b.L xk (b.L xk ++ xl), putD b.D xk (xd.take (m + 1))⟩ (M2 + 1) B (.slice (some ⟨g, 0, none⟩) xs.length cp) xs ∧ w'.heap[bx]? = some (crO (⟨⟨xk, (some m0), xl, xd⟩, .slice lx xl.length cx, .slice (some ⟨bd, od, none⟩) xd.length fx⟩ : Cr))) ∧ (w'.cell? ⟨s, 0, none⟩ = some (.pointer (some ⟨gv, 0, none⟩)) ∧ w'.cell? ⟨s, 1, none⟩ = some (.pointer (some ⟨gl, 0, none⟩)) ∧ w'.cell? ⟨s, 2, none⟩ = some (.pointer (some ⟨gd, 0, none⟩)) ∧ w'.cell? ⟨bx, 0, none⟩ = some (.int .i64 xk.g) ∧ w'.cell? ⟨bx, 1, none⟩ = some (.int .i64 xk.n) ∧ w'.cell? ⟨bx, 2, none⟩ = some (.int .i64 xk.i) ∧ w'.cell? ⟨bx, 3, none⟩ = some (.bool true) ∧ w'.cell? ⟨bx, 4, none⟩ = some (.int .i64 m0) ∧ w'.cell? ⟨bx, 5, none⟩ = some (.slice lx xl.length cx) ∧ w'.cell? ⟨bx, 6, none⟩ = some (.slice (some ⟨bd, od, none⟩) xd.length fx) ∧ w'.cell? ⟨wr.heap.size, 0, none⟩ = some (.int .i64 ff) ∧ w'.cell? ⟨wr.heap.size, 1, none⟩ = some (.int .i64 fn))) := by
                  rcases HDK.out with ⟨hpo, hri, hra⟩ | e0
                  · have hmem := hra _ (List.mem_of_getElem? hp)
                    refine (stPut hpo _ s gv gl gd M2 _ xk ff fn _ HB2.out.drew.st (HB2.out.drew.out HO.out) (hri m).1 (hri m).2 hmem.1 hmem.2).mono ?_
                    rintro e w' ⟨r1, r2, r3⟩
                    have m' := HB2.out.drew.turn HA.out r2 r3
                    have hb' := r3.old (g := bx) hbx2 (fun e => e.2 (Or.inl (Or.inr rfl)))
                    have hf' := r3.old (g := wr.heap.size) hbf (fun e => e.2 (Or.inr rfl))
                    rw [putD_take b.D xk hp]
                    exact ⟨r1, ⟨m'.drop (fun j hj => Or.inl hj), hb'⟩, mid_cells2 (StaS.obj m'.st) hb' hf'⟩
                  · rw [e0] at hlt2; simp at hlt2
                clear hc rd hp hbf hbx2 HB2 HI
                unfold k3E fdO crO at *
                simp only [Option.isSome_some, Option.getD_some] at *
                obtain ⟨t0, t1, t2, t3, t4, t5, t6, t7, t8, t9, t10, t11⟩ := s3
                have s3 := And.intro t0 (And.intro t1 (And.intro t2 (And.intro t3 (And.intro t4 (And.intro t5 (And.intro t6 (And.intro t7 (And.intro t8 (And.intro t9 (And.intro t10 t11))))))))))
                clear t0 t1 t2 t3 t4 t5 t6 t7 t8 t9 t10 t11
                go_wp2
                go_region_held3 (fun w' => w'.cell? ⟨s, 0, none⟩ = some (.pointer (some ⟨gv, 0, none⟩)) ∧ w'.cell? ⟨s, 1, none⟩ = some (.pointer (some ⟨gl, 0, none⟩)) ∧ w'.cell? ⟨s, 2, none⟩ = some (.pointer (some ⟨gd, 0, none⟩)) ∧ w'.cell? ⟨bx, 0, none⟩ = some (.int .i64 xk.g) ∧ w'.cell? ⟨bx, 1, none⟩ = some (.int .i64 xk.n) ∧ w'.cell? ⟨bx, 2, none⟩ = some (.int .i64 xk.i) ∧ w'.cell? ⟨bx, 3, none⟩ = some (.bool true) ∧ w'.cell? ⟨bx, 4, none⟩ = some (.int .i64 m0) ∧ w'.cell? ⟨bx, 5, none⟩ = some (.slice lx xl.length cx) ∧ w'.cell? ⟨bx, 6, none⟩ = some (.slice (some ⟨bd, od, none⟩) xd.length fx) ∧ w'.cell? ⟨wr.heap.size, 0, none⟩ = some (.int .i64 ff) ∧ w'.cell? ⟨wr.heap.size, 1, none⟩ = some (.int .i64 fn)) (first | exact s3 | exact s4 | go_keep) ((go_at_call 6; refine HC3.out.mono ?_; rintro e W3 ⟨rfl, HM3, s4⟩))
                all_goals
                  go_wp2
                  exact ⟨⟨m + 1, M2 + 1, by omega, by simp, HM3⟩, by simp [intOf]; omega⟩
              · have HM4 : Hid (Mid w wr O (fun _ => False) s gv gl gd (fillA a ((xs.map Cr.c).take (n + 1))) M2 B (.slice (some ⟨g, 0, none⟩) xs.length cp) xs) := by
                  have := HI.out.1.drop (E' := fun _ => False) (fun _ e => e.elim)
                  rw [List.take_of_length_le (by omega)] at this
                  show Mid _ _ _ _ _ _ _ _ _ _ _ _ _
                  rw [HTK.out]
                  exact this
                clear HI HTK HDK HRM
                go_wp2
                exact ⟨⟨n + 1, M2, by omega, by simp, HM4⟩, by simp [intOf]; omega⟩
    · obtain rfl : n = xs.length := by omega
      have H1 : Hid ((∃ M, AbS wr O s gv gl gd (fillA a (xs.map Cr.c)) M) ∧ Tch O w wr) := ⟨⟨M, by
        have := StaS.wide HM.out.st (O' := O) (fun j hj _ => hj.1)
        rwa [List.take_of_length_le (by simp)] at this⟩, HM.out.tch⟩
      clear HM HF
      go_wp2
      go_end0
      exact ⟨rfl, H1.out⟩
end Go.Proofs.YtdogecaonlmalaaGreat

namespace Go.Proofs.YtdogecaonlmalaaGreat
open Go.RowKit Go.MapKept Go.ChangeMaps

theorem StaS.fit2 {w w1 : World} {O O1 : Nat → Prop} {s gv gl gd s1 v1 l1 d1 M N : Nat} {a : Ab} (h : AbS w O s gv gl gd a M) (h1 : AbS w1 O1 s1 v1 l1 d1 a N) {ks : List K3} (hk : Kof a ks) : AbS w O s gv gl gd a N := by
  obtain ⟨A, B, C, h⟩ := h
  obtain ⟨X, hX⟩ := StaS.rdV h1
  obtain ⟨Y, hY⟩ := StaS.rdL h1
  obtain ⟨Z, hZ⟩ := StaS.rdD h1
  have hn := hk.1.nodup
  refine ⟨A, B, C, h.obj, h.own, (h.v.fit (ks := ks.filter (fun k => decide (a.V k ≠ none))) (fun k e => ?_)).more (hX.klen (hn.filter _) (fun k hm => ?_)), (h.l.fit (ks := ks.filter (fun k => decide (a.L k ≠ []))) (fun k e => ?_)).more (hY.klen (hn.filter _) (fun k hm => ?_)), (h.d.fit (ks := ks.filter (fun k => decide (a.D k ≠ []))) (fun k e => ?_)).more (hZ.klen (hn.filter _) (fun k hm => ?_)), h.sub, h.ab, h.ac, h.bc⟩
  · exact List.mem_filter.2 ⟨(hk.2 k).2 (Or.inl e), decide_eq_true e⟩
  · exact of_decide_eq_true (List.mem_filter.1 hm).2
  · exact List.mem_filter.2 ⟨(hk.2 k).2 (Or.inr (Or.inl e)), decide_eq_true e⟩
  · exact of_decide_eq_true (List.mem_filter.1 hm).2
  · exact List.mem_filter.2 ⟨(hk.2 k).2 (Or.inr (Or.inr e)), decide_eq_true e⟩
  · exact of_decide_eq_true (List.mem_filter.1 hm).2

theorem nodup_at {ks : List K3} (h : ks.Nodup) {n : Nat} {k : K3} (hk : ks[n]? = some k) : k ∉ ks.take n := by
  intro hm
  obtain ⟨j, hj, e⟩ := List.getElem_of_mem hm
  obtain ⟨h1, rfl⟩ := List.getElem?_eq_some_iff.1 hk
  rw [List.length_take] at hj
  rw [List.getElem_take] at e
  have := (List.getElem_inj (h₀ := by omega) (h₁ := h1) h).1 e
  omega

theorem fillOK {a : Ab} {ks : List K3} (hk : Kof a ks) (hl : ∀ k, (a.L k).length ≤ 100) (hd : ∀ k, (a.D k).length ≤ 100) (hp : (PutOK ∧ AbOK a) ∨ ∀ k, a.D k = []) (hr : ∀ k, RiseF (a.D k)) : FillOK ab0 (ks.map a.at) := by
  have at' : ∀ n c, (ks.map a.at)[n]? = some c → ∃ k, ks[n]? = some k ∧ c = a.at k := fun n c h => by
    rw [List.getElem?_map] at h
    cases hq : ks[n]? with
    | none => rw [hq] at h; cases h
    | some k => rw [hq] at h; exact ⟨k, hq, (Option.some.inj h).symm⟩
  have emp : ∀ n k, ks[n]? = some k → (fillA ab0 ((ks.map a.at).take n)).L k = [] ∧ (fillA ab0 ((ks.map a.at).take n)).D k = [] := fun n k h => by
    have := fill_some a hr (ks.take n) ab0 (hk.1.nodup.sublist (List.take_sublist _ _)) (fun _ _ => ⟨rfl, rfl, rfl⟩) k
    rw [← List.map_take, this.2.1, this.2.2, if_neg (nodup_at hk.1.nodup h), if_neg (nodup_at hk.1.nodup h)]
    exact ⟨rfl, rfl⟩
  refine ⟨fun n c hc => ?_, ?_, fun c hc => ?_⟩
  · obtain ⟨k, h1, rfl⟩ := at' n c hc
    show ((fillA ab0 ((ks.map a.at).take n)).L k).length + (a.L k).length ≤ 100
    rw [(emp n k h1).1]
    have := hl k
    simp; omega
  · rcases hp with ⟨h1, h2⟩ | h
    · refine Or.inl ⟨h1, fun n c hc m => ?_, fun c hc p hp => ?_⟩
      · obtain ⟨k, h3, rfl⟩ := at' n c hc
        show RiseF (putD _ k ((a.D k).take m) k) ∧ (putD _ k ((a.D k).take m) k).length ≤ 100
        have ht : RiseF ([] ++ (a.D k).take m) := (hr k).sublist (List.take_sublist _ _)
        rw [putD_rise k ((a.D k).take m) [] _ (emp n k h3).2 ht]
        have hle := hd k
        refine ⟨by simpa [updR] using ht, ?_⟩
        simp [updR]; omega
      · obtain ⟨k, _, rfl⟩ := List.mem_map.1 hc
        exact (h2 k).2 p hp
    · refine Or.inr (fun c hc => ?_)
      obtain ⟨k, _, rfl⟩ := List.mem_map.1 hc
      exact h k
  · obtain ⟨k, _, rfl⟩ := List.mem_map.1 hc
    exact Nat.le_trans (hd k) (by omega)

set_option maxRecDepth 100000 in
set_option maxHeartbeats 1000000 in
/-- Copy. -/
theorem stateCopy (O : Nat → Prop) (s gv gl gd N : Nat) (a : Ab) (w : World) (h : AbS w O s gv gl gd a N) (hN : N ≤ 1000) (hl : ∀ k, (a.L k).length ≤ 100) (hd : ∀ k, (a.D k).length ≤ 100) (hp : (PutOK ∧ AbOK a) ∨ ∀ k, a.D k = []) (hr : ∀ k, RiseF (a.D k)) :
    Calls Tryz.prog 24 #[.pointer (some ⟨s, 0, none⟩)] w fun e w' => e = .returned (.pointer (some ⟨w.heap.size + 1 + 1 + 1, 0, none⟩)) ∧ AbS w' (fun k => w.heap.size ≤ k) (w.heap.size + 1 + 1 + 1) w.heap.size (w.heap.size + 1) (w.heap.size + 1 + 1) a N ∧ Below w.heap.size w w' := by
  have hb := newSt_below w
  have hsz := newSt_size w
  have hnew : AbS (newSt w) (fun k => w.heap.size ≤ k) (w.heap.size + 1 + 1 + 1) w.heap.size (w.heap.size + 1) (w.heap.size + 1 + 1) ab0 0 := StaS.new w (fun k => w.heap.size ≤ k) (fun k hk => hk)
  have HC := hide (stateCells O s gv gl gd N a (newSt w) (StaS.later h hb) hN hl hd)
  have HF : Hid (∀ v xs ks W, Kof a ks → xs.map Cr.c = ks.map a.at → ks.length ≤ 3 * N → OwnR W (newSt w).heap.size v xs → Below (newSt w).heap.size (newSt w) W → Calls Tryz.prog 42 #[.pointer (some ⟨w.heap.size + 1 + 1 + 1, 0, none⟩), v] W fun e w' => e = .returned (.tuple #[]) ∧ Hid (AbS w' (fun k => w.heap.size ≤ k) (w.heap.size + 1 + 1 + 1) w.heap.size (w.heap.size + 1) (w.heap.size + 1 + 1) a N ∧ Below w.heap.size w w')) := fun v xs ks W hk hx hn ho hW => by
    have hst : AbS W (fun j => (w.heap.size ≤ j ∧ j < (newSt w).heap.size) ∨ W.heap.size ≤ j) (w.heap.size + 1 + 1 + 1) w.heap.size (w.heap.size + 1) (w.heap.size + 1 + 1) ab0 0 :=
      StaS.later (StaS.wide hnew (fun j hj hl => Or.inl ⟨hj, hl⟩)) hW
    have hap : Apart W (fun j => (w.heap.size ≤ j ∧ j < (newSt w).heap.size) ∨ W.heap.size ≤ j) v xs := by
      have no : ∀ j, (newSt w).heap.size ≤ j ∧ j < W.heap.size → ¬ ((w.heap.size ≤ j ∧ j < (newSt w).heap.size) ∨ W.heap.size ≤ j) := fun j hj => by omega
      exact ⟨fun k hk => no k (World.ownsRow.lt ho.row k hk), fun x hx k hk => no k (World.ownsRow.lt (ho.all x hx).la k hk), fun x hx k hk => no k (World.ownsRow.lt (ho.all x hx).da k hk)⟩
    have hxl : xs.length ≤ 100000 := by
      have := congrArg List.length hx
      rw [List.length_map, List.length_map] at this
      omega
    refine (fill_any _ _ _ _ _ ab0 0 _ v xs W hst (fun k hk => Or.inr hk) ho hap (by rw [hx]; exact fillOK hk hl hd hp hr) hxl).mono ?_
    rintro e w' ⟨r1, ⟨M, r2⟩, r3⟩
    rw [hx, fill_all a hr hk] at r2
    have hbW := hb.trans (hW.mono hb.size)
    refine ⟨r1, StaS.fit2 (StaS.wide r2 (fun j hj hl => ?_)) h hk, hbW.trans (r3.below (fun k hk e => by have := hbW.size; omega) hbW.size)⟩
    rcases hj with e | e
    · exact e.1
    · exact Nat.le_trans hbW.size e
  clear h hl hd hp hr hnew hb hsz
  go_enter Tryz.func24, Tryz.ntmps24
  go_wp2_with fail
  refine (stateNew w).mono ?_
  rintro e w1 ⟨rfl, rfl⟩
  generalize newSt w = w1 at *
  go_wp2_with fail
  refine HC.out.mono ?_
  rintro e w2 ⟨v, xs, ks, rfl, k1, k2, k3, k4, k5⟩
  have HF1 := hide (HF.out v xs ks w2 k1 k3 k2 k4 k5)
  clear k1 k2 k3 k4 k5 HC HF
  go_wp2_with fail
  refine HF1.out.mono ?_
  rintro e w3 ⟨rfl, HR⟩
  clear HF1
  go_wp2
  go_ret
  exact ⟨rfl, HR.out.1, HR.out.2⟩
end Go.Proofs.YtdogecaonlmalaaGreat
