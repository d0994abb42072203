/- A law's own map of maps (for the statement DictAll). -/
import Derived.Test.YtdogecaonlmalaaGreatMapI
import Derived.Test.YtdogecaonlmalaaGreatDctG
import Derived.Test.YtdogecaonlmalaaGreatMapF
import Derived.Test.YtdogecaonlmalaaGreatRisK
import Derived.Test.YtdogecaonlmalaaGreatKopR
import Derived.Test.YtdogecaonlmalaaGreatStat
namespace Go.Proofs.YtdogecaonlmalaaGreat
open Go.RowKit Go.MapKept Go.ChangeMaps

theorem undMM : Tryz.prog.underlying 26 = some (.map 28 33) := by kernel_rfl
theorem undMI : Tryz.prog.underlying 33 = some (.map 2 2) := by kernel_rfl
theorem zeroMI (w : World) : (zeroValue 33).run Tryz.prog w = .ok (.map Option.none) w := by
  have hz : Tryz.t33.zero = some (.map Option.none) := by kernel_rfl
  simp [zeroValue, hz]
theorem zeroI6 (w : World) : (zeroValue 2).run Tryz.prog w = .ok (.int .i64 0) w := by
  have hz : Tryz.t2.zero = some (.int .i64 0) := by kernel_rfl
  simp [zeroValue, hz]

/-- The inner map mo holds the fields z. -/
structure Im (W : World) (mo : Option Nat) (z : List (Int × Int)) : Prop where
  made : ∀ m, mo = some m → ∃ l c, Mp i6E W m l c ∧ ∀ f, atE l f = (fldZ z f).map (Value.int .i64)
  nomap : mo = Option.none → z = []
theorem Im.later {W W' : World} {mo : Option Nat} {z : List (Int × Int)} (h : Im W mo z) (hh : ∀ m, mo = some m → W'.heap[m]? = W.heap[m]?) : Im W' mo z :=
  ⟨fun m e => by obtain ⟨l, c, h1, h2⟩ := h.made m e; exact ⟨l, c, h1.at (hh m e), h2⟩, h.nomap⟩
theorem Im.lt {W : World} {m : Nat} {z : List (Int × Int)} (h : Im W (some m) z) : m < W.heap.size := by
  obtain ⟨l, c, h1, _⟩ := h.made m rfl
  exact h1.lt
/-- v, ok := m[f]. -/
theorem Im.look {W : World} {mo : Option Nat} {z : List (Int × Int)} (h : Im W mo z) (f : Int) : (Instr.lookup 33 (.map mo) (.int .i64 f) true).run Tryz.prog W = .ok (.tuple #[.int .i64 ((fldZ z f).getD 0), .bool (fldZ z f).isSome]) W := by
  cases mo with
  | none =>
    have := look_nilE i6Keyd undMI (zeroI6 W) f true
    rw [h.nomap rfl]
    exact this
  | some m =>
    obtain ⟨l, c, h1, h2⟩ := h.made m rfl
    have := h1.look i6Keyd undMI (zeroI6 W) f true
    rw [h2 f] at this
    cases hz : fldZ z f with
    | none => rw [hz] at this; exact this
    | some v => rw [hz] at this; exact this
theorem im_keys {l : List (Ent Int)} {z : List (Int × Int)} (hn : (l.map Ent.k).Nodup) (hz : RiseF z) (h : ∀ f, atE l f = (fldZ z f).map (Value.int .i64)) : l.length = z.length := by
  have hzn : (z.map Prod.fst).Nodup := by
    have : (z.map Prod.fst).Pairwise (· < ·) := List.pairwise_map.2 hz
    exact this.imp (fun h => by omega)
  have hm : ∀ f, f ∈ l.map Ent.k ↔ f ∈ z.map Prod.fst := fun f => by
    constructor
    · intro hf
      obtain ⟨x, hx, _, hat⟩ := atE_some hf
      rw [h f] at hat
      cases hv : fldZ z f with
      | none => rw [hv] at hat; cases hat
      | some v => exact List.mem_map.2 ⟨(f, v), (fld_mem hz f v).1 hv, rfl⟩
    · intro hf
      obtain ⟨⟨f', v⟩, hp, rfl⟩ := List.mem_map.1 hf
      have hv := (fld_mem hz f' v).2 hp
      refine Classical.byContradiction fun hno => ?_
      have hat := h f'
      rw [atE_none hno, hv] at hat
      cases hat
  have h1 := nodup_le hn (fun f hf => (hm f).1 hf)
  have h2 := nodup_le hzn (fun f hf => (hm f).2 hf)
  rw [List.length_map, List.length_map] at h1 h2
  omega
theorem len_im {W : World} {mo : Option Nat} {z : List (Int × Int)} (h : Im W mo z) (hz : RiseF z) (ty : TypeId) : (Builtin.len_ #[33] ty #[.map mo]).run Tryz.prog W = .ok (.int .i64 z.length) W := by
  cases mo with
  | none =>
    rw [h.nomap rfl]
    simp [Builtin.len_, run_underlying undMI]
    rfl
  | some m =>
    obtain ⟨l, c, h1, h2⟩ := h.made m rfl
    have h3 := Go.MapKept.run_getObj_map (P := Tryz.prog) h1.heap
    have h4 := im_keys h1.keys hz h2
    simp [Builtin.len_, run_underlying undMI, h3, h4]
    rfl
/-- m[f] = v. -/
theorem Im.put {W : World} {m : Nat} {z : List (Int × Int)} (h : Im W (some m) z) (hz : RiseF z) (f v : Int) : ∃ W', (Instr.mapUpdate 33 (.map (some m)) (.int .i64 f) (.int .i64 v)).run Tryz.prog W = .ok () W' ∧ Im W' (some m) (putZ z f v) ∧ W.grownBy W' (some m) := by
  obtain ⟨l, c, h1, h2⟩ := h.made m rfl
  by_cases hs : f ∈ l.map Ent.k
  · obtain ⟨W', r1, r2, r3⟩ := h1.set i6Keyd undMI f (.int .i64 v) hs
    refine ⟨W', r1, ⟨fun m' e => ?_, fun e => (by cases e)⟩, r3⟩
    cases e
    refine ⟨_, _, r2, fun b => ?_⟩
    rw [atE_setE _ _ _ hs, fld_put f v hz, h2 b]
    split <;> rfl
  · obtain ⟨W', r1, r2, r3⟩ := h1.put i6Keyd undMI f (.int .i64 v) hs
    refine ⟨W', r1, ⟨fun m' e => ?_, fun e => (by cases e)⟩, r3⟩
    cases e
    refine ⟨_, _, r2, fun b => ?_⟩
    rw [atE_snoc _ _ _ _ hs, fld_put f v hz, h2 b]
    split <;> rfl
/-- delete(m, f). -/
theorem Im.del {W : World} {mo : Option Nat} {z : List (Int × Int)} (h : Im W mo z) (hz : RiseF z) (f : Int) : ∃ W', (∀ ty, (Builtin.delete_ #[33, 2] ty #[.map mo, .int .i64 f]).run Tryz.prog W = .ok (.tuple #[]) W') ∧ Im W' mo (cutZ z f) ∧ W.grownBy W' mo := by
  cases mo with
  | none =>
    have hz0 := h.nomap rfl
    subst hz0
    refine ⟨W, fun ty => del_nil undMI i6Keyd f ty W, ⟨fun m e => (by cases e), fun _ => rfl⟩, rfl, rfl, rfl, Nat.le_refl _, fun _ _ _ => rfl⟩
  | some m =>
    obtain ⟨l, c, h1, h2⟩ := h.made m rfl
    obtain ⟨W', r1, r2, r3⟩ := h1.del i6Keyd undMI 0 f
    refine ⟨W', fun ty => r1, ⟨fun m' e => ?_, fun e => (by cases e)⟩, r3⟩
    cases e
    refine ⟨_, _, r2, fun b => ?_⟩
    rw [atE_delE, fld_cut f hz, h2 b]
    split <;> rfl

/-- The dictionaries hold fd; the law's map of maps at r holds fm; the blocks E are the law's own. -/
structure DA (w W : World) (g r : Nat) (E : Nat → Prop) (fd fm : K3 → List (Int × Int)) (N : Nat) (l : List (Ent K3)) (c : Nat) : Prop where
  h : Dh w W g E fd N
  m : Mp k3E W r l c
  re : E r
  ew : ∀ k, E k → w.heap.size ≤ k
  row : ∀ x ∈ l, ∃ m, x.v = .map (some m) ∧ Im W (some m) (fm x.k) ∧ E m ∧ m ≠ r
  inj : ∀ x ∈ l, ∀ y ∈ l, x.v = y.v → x.k = y.k
  non : ∀ k, k ∉ l.map Ent.k → fm k = []
  okm : ∀ k, OkF (fm k)
section
variable {w W W' : World} {g r N c : Nat} {E : Nat → Prop} {fd fm : K3 → List (Int × Int)} {l : List (Ent K3)}
theorem DA.later (h : DA w W g r E fd fm N l c) (hb : Below W.heap.size W W') : DA w W' g r E fd fm N l c :=
  ⟨h.h.later hb, h.m.at (hb.block _ h.m.lt), h.re, h.ew, fun x hx => by
    obtain ⟨m, e1, e2, e3, e4⟩ := h.row x hx
    exact ⟨m, e1, e2.later (fun m' e => by cases e; exact hb.block _ e2.lt), e3, e4⟩, h.inj, h.non, h.okm⟩
/-- What was made since is the law's own. -/
theorem DA.fence (h : DA w W g r E fd fm N l c) (hb : Below W.heap.size W W') : DA w W' g r (fun k => E k ∨ (W.heap.size ≤ k ∧ k < W'.heap.size)) fd fm N l c := by
  have h1 := h.later hb
  have hl : DiS W (fun k => g ≤ k ∧ ¬ (E k ∨ (W.heap.size ≤ k ∧ k < W'.heap.size))) g fd N := h.h.d.sub (fun k hk hl => ⟨hk.1, fun e => by
    rcases e with e | e
    · exact hk.2 e
    · omega⟩)
  refine ⟨⟨hl.later hb, ?_, h.h.gw, h1.h.b, h.h.ok⟩, h1.m, Or.inl h.re, ?_, fun x hx => ?_, h.inj, h.non, h.okm⟩
  · rintro k (e | e)
    · exact h1.h.lt k e
    · exact e.2
  · rintro k (e | e)
    · exact h.ew k e
    · have := h.h.b.size; omega
  · obtain ⟨m, e1, e2, e3, e4⟩ := h1.row x hx
    exact ⟨m, e1, e2, Or.inl e3, e4⟩
/-- The dictionaries do something. -/
theorem DA.turn {fd' : K3 → List (Int × Int)} {N' : Nat} (h : DA w W g r E fd fm N l c) (h1 : Dh w W' g E fd' N') (ht : Tch (fun k => g ≤ k ∧ ¬ E k) W W') : DA w W' g r E fd' fm N' l c :=
  ⟨h1, h.m.at (ht.block _ h.m.lt (fun e => e.2 h.re)), h.re, h.ew, fun x hx => by
    obtain ⟨m, e1, e2, e3, e4⟩ := h.row x hx
    exact ⟨m, e1, e2.later (fun m' e => by cases e; exact ht.block _ e2.lt (fun e => e.2 e3)), e3, e4⟩, h.inj, h.non, h.okm⟩
/-- The law writes into one block of its own. -/
theorem DA.poke {i : Nat} (h : DA w W g r E fd fm N l c) (hE : E i) (ht : Tch (fun j => j = i) W W') : Dh w W' g E fd N :=
  ⟨h.h.d.tch ht (fun j hj _ e => hj.2 (by rw [e]; exact hE)), fun j hj => Nat.lt_of_lt_of_le (h.h.lt j hj) ht.size, h.h.gw, h.h.b.trans (ht.below (fun j hj e => by have := h.ew i hE; omega) h.h.b.size), h.h.ok⟩
/-- w[k]. -/
theorem DA.look (h : DA w W g r E fd fm N l c) (k : K3) : ∃ mo, (Instr.lookup 26 (.map (some r)) (k3E k) false).run Tryz.prog W = .ok (.map mo) W ∧ Im W mo (fm k) ∧ (mo = Option.none ↔ k ∉ l.map Ent.k) ∧ ∀ m, mo = some m → ∃ x ∈ l, x.k = k ∧ x.v = .map (some m) := by
  have h1 := h.m.look k3Keyd undMM (zeroMI W) k false
  by_cases hs : k ∈ l.map Ent.k
  · obtain ⟨x, hx, e, ha⟩ := atE_some hs
    obtain ⟨m, e1, e2, e3, e4⟩ := h.row x hx
    rw [ha, e1] at h1
    rw [e] at e2
    exact ⟨some m, h1, e2, ⟨fun e => (by cases e), fun e => absurd hs e⟩, fun m' em => by cases em; exact ⟨x, hx, e, e1⟩⟩
  · rw [atE_none hs] at h1
    exact ⟨Option.none, h1, ⟨fun m e => (by cases e), fun _ => h.non k hs⟩, ⟨fun _ => hs, fun _ => rfl⟩, fun m e => (by cases e)⟩
/-- w[k] = a new map. -/
theorem DA.fresh (h : DA w W g r E fd fm N l c) (k : K3) (hk : k ∉ l.map Ent.k) {m : Nat} (hm : Im W (some m) []) (hE : E m) (hmr : m ≠ r) (hnew : ∀ x ∈ l, x.v ≠ .map (some m)) :
    ∃ W2, (Instr.mapUpdate 26 (.map (some r)) (k3E k) (.map (some m))).run Tryz.prog W = .ok () W2 ∧ DA w W2 g r E fd fm N (l ++ [⟨k, .map (some m), c⟩]) (c + 1) ∧ Tch (fun j => j = r) W W2 := by
  obtain ⟨W2, r1, r2, r3⟩ := h.m.put k3Keyd undMM k (.map (some m)) hk
  have ht := (Tch.of r3).mono (S' := fun j => j = r) (fun _ _ e => Option.some.inj e)
  refine ⟨W2, r1, ⟨h.poke h.re ht, r2, h.re, h.ew, fun x hx => ?_, fun x hx y hy e => ?_, fun j hj => ?_, h.okm⟩, ht⟩
  · rcases List.mem_append.1 hx with hx | hx
    · obtain ⟨m', e1, e2, e3, e4⟩ := h.row x hx
      exact ⟨m', e1, e2.later (fun m'' e => by cases e; exact ht.block _ e2.lt e4), e3, e4⟩
    · simp at hx
      subst hx
      refine ⟨m, rfl, ?_, hE, hmr⟩
      show Im W2 (some m) (fm k)
      rw [h.non k hk]
      exact hm.later (fun m'' e => by cases e; exact ht.block _ hm.lt hmr)
  · rcases List.mem_append.1 hx with hx | hx <;> rcases List.mem_append.1 hy with hy | hy
    · exact h.inj x hx y hy e
    · simp at hy
      subst hy
      exact absurd e (hnew x hx)
    · simp at hx
      subst hx
      exact absurd e.symm (hnew y hy)
    · simp at hx hy
      subst hx
      subst hy
      rfl
  · exact h.non j (fun e => hj (by rw [List.map_append]; exact List.mem_append_left _ e))
/-- The inner map of k turns. -/
theorem DA.inner {m : Nat} {z : List (Int × Int)} (h : DA w W g r E fd fm N l c) (k : K3) (hx : ∃ x ∈ l, x.k = k ∧ x.v = .map (some m)) (hi : Im W' (some m) z) (hz : OkF z) (hg : W.grownBy W' (some m)) : DA w W' g r E fd (updR fm k z) N l c ∧ Tch (fun j => j = m) W W' := by
  have ht := (Tch.of hg).mono (S' := fun j => j = m) (fun _ _ e => Option.some.inj e)
  obtain ⟨x0, hx0, ek, ev⟩ := hx
  obtain ⟨m0, f1, f2, f3, f4⟩ := h.row x0 hx0
  obtain rfl : m = m0 := by rw [ev] at f1; simpa using f1
  refine ⟨⟨h.poke f3 ht, h.m.at (ht.block _ h.m.lt (fun e => f4 e.symm)), h.re, h.ew, fun x hx => ?_, h.inj, fun j hj => ?_, fun j => ?_⟩, ht⟩
  · obtain ⟨m', e1, e2, e3, e4⟩ := h.row x hx
    by_cases e : x.k = k
    · have hv : m' = m := by
        have hn := h.m.keys
        have : x = x0 := by
          obtain ⟨i, hi1, rfl⟩ := List.getElem_of_mem hx
          obtain ⟨j, hj1, rfl⟩ := List.getElem_of_mem hx0
          have := (List.pairwise_iff_getElem.1 hn)
          rcases Nat.lt_trichotomy i j with hij | hij | hij
          · exact absurd (show (l.map Ent.k)[i]'(by simpa using hi1) = (l.map Ent.k)[j]'(by simpa using hj1) by rw [List.getElem_map, List.getElem_map, e, ek]) (this i j (by simpa using hi1) (by simpa using hj1) hij)
          · subst hij; rfl
          · exact absurd (show (l.map Ent.k)[j]'(by simpa using hj1) = (l.map Ent.k)[i]'(by simpa using hi1) by rw [List.getElem_map, List.getElem_map, e, ek]) (this j i (by simpa using hj1) (by simpa using hi1) hij)
        rw [this, ev] at e1
        simpa using e1.symm
      subst hv
      refine ⟨m', e1, ?_, e3, e4⟩
      rw [updR, if_pos e]
      exact hi
    · refine ⟨m', e1, ?_, e3, e4⟩
      rw [updR, if_neg e]
      refine e2.later (fun m'' em => ?_)
      cases em
      refine ht.block _ e2.lt (fun e5 => e ?_)
      have e5' : m' = m := e5
      rw [← ek]
      exact h.inj x hx x0 hx0 (by rw [e1, ev, e5'])
  · rw [updR, if_neg (fun e => hj (by rw [e, ← ek]; exact List.mem_map.2 ⟨x0, hx0, rfl⟩))]
    exact h.non j hj
  · unfold updR
    split
    · exact hz
    · exact h.okm j
/-- The law's range goes a step. -/
theorem DA.step {i : Nat} {todo : List (Ent K3)} (h : DA w W g r E fd fm N l c) (hit : Itr k3E W i r l todo c) (hir : i ≠ r) (hE : E i) (hg : W.grownBy W' (some i)) : DA w W' g r E fd fm N l c := by
  have ht := (Tch.of hg).mono (S' := fun j => j = i) (fun _ _ e => Option.some.inj e)
  obtain ⟨_, seen, c0, hi, _⟩ := hit
  refine ⟨h.poke hE ht, h.m.at (ht.block _ h.m.lt (fun e => hir e.symm)), h.re, h.ew, fun x hx => ?_, h.inj, h.non, h.okm⟩
  obtain ⟨m, e1, e2, e3, e4⟩ := h.row x hx
  refine ⟨m, e1, e2.later (fun m'' em => ?_), e3, e4⟩
  cases em
  refine ht.block _ e2.lt (fun e5 => ?_)
  obtain ⟨lx, cx, q1, _⟩ := e2.made m rfl
  have := q1.heap
  rw [show m = i from e5, hi] at this
  simp at this
/-- How many entries have a field. -/
def cntD (fm : K3 → List (Int × Int)) (l : List (Ent K3)) : Nat := l.countP fun x => decide (fm x.k ≠ [])
theorem DA.count (h : DA w W g r E fd fd N l c) {ks : List K3} (hk : ∀ k, k ∈ ks ↔ fd k ≠ []) (hr : RiseK ks) : ks.length = cntD fd l := by
  unfold cntD
  rw [List.countP_eq_length_filter, ← List.length_map (f := Ent.k)]
  have hn : ((l.filter fun x => decide (fd x.k ≠ [])).map Ent.k).Nodup := h.m.keys.sublist (List.Sublist.map _ List.filter_sublist)
  have hm : ∀ k, k ∈ (l.filter fun x => decide (fd x.k ≠ [])).map Ent.k ↔ fd k ≠ [] := fun k => by
    refine ⟨fun hh => ?_, fun hh => ?_⟩
    · obtain ⟨x, hx, rfl⟩ := List.mem_map.1 hh
      simpa using (List.mem_filter.1 hx).2
    · have hs : k ∈ l.map Ent.k := Classical.byContradiction fun e => hh (h.non k e)
      obtain ⟨x, hx, rfl⟩ := List.mem_map.1 hs
      exact List.mem_map.2 ⟨x, List.mem_filter.2 ⟨hx, by simpa using hh⟩, rfl⟩
  exact Nat.le_antisymm (nodup_le hr.nodup (fun k hh => (hm k).2 ((hk k).1 hh))) (nodup_le hn (fun k hh => (hk k).2 ((hm k).1 hh)))
theorem DA.few (h : DA w W g r E fd fd N l c) : cntD fd l ≤ N := by
  unfold cntD
  rw [List.countP_eq_length_filter, ← List.length_map (f := Ent.k)]
  refine h.h.d.klen (h.m.keys.sublist (List.Sublist.map _ List.filter_sublist)) (fun k hk => ?_)
  obtain ⟨x, hx, rfl⟩ := List.mem_map.1 hk
  simpa using (List.mem_filter.1 hx).2
theorem cntD_perm {x : Ent K3} {l' : List (Ent K3)} (h : l.Perm (x :: l')) : cntD fm l = cntD fm l' + if (fm x.k).length = 0 then 0 else 1 := by
  unfold cntD
  rw [h.countP_eq, List.countP_cons]
  congr 1
  by_cases e : fm x.k = []
  · simp [e]
  · have : ¬ (fm x.k).length = 0 := fun h => e (List.length_eq_zero_iff.1 h)
    simp [e]
theorem DA.put (h : DA w W g r E fd fm N l c) (k : K3) (f n : Int) (h0 : 0 ≤ f) (h8 : f < 8) :
    Calls Tryz.prog 6 #[.pointer (some ⟨g, 0, none⟩), k3E k, .int .i64 f, .int .i64 n] W fun e w' => e = .returned (.int .i64 0) ∧ DA w w' g r E (updR fd k (putZ (fd k) f n)) fm (N + 1) l c ∧ Tch (fun k => g ≤ k ∧ ¬ E k) W w' := by
  refine (h.h.put k f n h0 h8).mono ?_
  rintro e w' ⟨r1, r2, r3⟩
  exact ⟨r1, h.turn r2 r3, r3⟩
theorem DA.cut (h : DA w W g r E fd fm N l c) (k : K3) (f : Int) :
    Calls Tryz.prog 7 #[.pointer (some ⟨g, 0, none⟩), k3E k, .int .i64 f] W fun e w' => e = .returned (.bool (fldZ (fd k) f).isSome) ∧ DA w w' g r E (updR fd k (cutZ (fd k) f)) fm (N + 1) l c ∧ Tch (fun k => g ≤ k ∧ ¬ E k) W w' := by
  refine (h.h.cut k f).mono ?_
  rintro e w' ⟨r1, r2, r3⟩
  exact ⟨r1, h.turn r2 r3, r3⟩
end

set_option maxRecDepth 100000 in
/-- PutField of a field that there is not. -/
theorem dictPutBad (g : Nat) (k : K3) (f n : Int) (w : World) (hf : ¬ (0 ≤ f ∧ f < 8)) :
    Calls Tryz.prog 6 #[.pointer (some ⟨g, 0, none⟩), k3E k, .int .i64 f, .int .i64 n] w fun e w' => e = .returned (.int .i64 2) ∧ Below w.heap.size w w' := by
  have HB := hide (below_alloc w (k3O k) w.heap.size (Nat.le_refl _))
  unfold k3O at HB
  unfold k3E
  by_cases h0 : f < 0
  · clear hf
    go_enter Tryz.func6, Tryz.ntmps6
    go_wp2
    go_ret
    exact ⟨rfl, HB.out⟩
  · have h8 : f ≥ 8 := by omega
    clear hf
    go_enter Tryz.func6, Tryz.ntmps6
    go_wp2
    go_ret
    exact ⟨rfl, HB.out⟩
section
variable {w W : World} {g r N c : Nat} {E : Nat → Prop} {fd fm : K3 → List (Int × Int)} {l : List (Ent K3)}
theorem DA.putBad (h : DA w W g r E fd fm N l c) (k : K3) (f n : Int) (hf : ¬ (0 ≤ f ∧ f < 8)) :
    Calls Tryz.prog 6 #[.pointer (some ⟨g, 0, none⟩), k3E k, .int .i64 f, .int .i64 n] W fun e w' => e = .returned (.int .i64 2) ∧ DA w w' g r E fd fm N l c ∧ Below W.heap.size W w' := by
  refine (dictPutBad g k f n W hf).mono ?_
  rintro e w' ⟨r1, r2⟩
  exact ⟨r1, h.later r2, r2⟩
theorem DA.keys (h : DA w W g r E fd fm N l c) (hN : N ≤ 1000) :
    Calls Tryz.prog 8 #[.pointer (some ⟨g, 0, none⟩)] W fun e w' => ∃ p c ks, e = .returned (.slice p ks.length c) ∧ (∀ k, k ∈ ks ↔ fd k ≠ []) ∧ RiseK ks ∧ OwnK w' W.heap.size (.slice p ks.length c) ks ∧ Below W.heap.size W w' := by
  refine (dictKeys _ g N fd W h.h.d hN).mono ?_
  rintro e w' ⟨v, ks, r1, r2, r3, r4, r5⟩
  obtain ⟨p, c, rfl⟩ := r4.shape
  exact ⟨p, c, ks, r1, r2, r3, r4, r5⟩
/-- What is told of a key: fields by rising numbers, each as the inner map has it. -/
theorem DA.told (h : DA w W g r E fd fm N l c) (k : K3) :
    Calls Tryz.prog 9 #[.pointer (some ⟨g, 0, none⟩), k3E k] W fun e w' => ∃ p c', e = .returned (.slice p (fd k).length c') ∧ RdF w' p (fd k).length c' (fd k) ∧ DA w w' g r E fd fm N l c ∧ Below W.heap.size W w' := by
  refine (h.h.dict k).mono ?_
  rintro e w' ⟨p, c', r1, r2, r3⟩
  obtain ⟨p', c2, e2, rd⟩ := RowF.rd r2.row
  obtain ⟨rfl, rfl⟩ : p = p' ∧ c' = c2 := by simpa using e2
  exact ⟨p, c', r1, rd, h.later r3, r3⟩
/-- The j-th field: what Field and the inner map say of it. -/
theorem DA.nth (h : DA w W g r E fd fd N l c) {k : K3} {j : Nat} {f v : Int} (hj : (fd k)[j]? = some (f, v)) : fldZ (fd k) f = some v ∧ ∀ i f' v', j = i + 1 → (fd k)[i]? = some (f', v') → f' < f := by
  refine ⟨(fld_mem (h.okm k).1 f v).2 (List.mem_of_getElem? hj), fun i f' v' e hi => ?_⟩
  subst e
  exact RiseF.lt (h.okm k).1 (Nat.lt_succ_self _) hi hj
end

/-- What is no map stays when a map turns. -/
theorem Im.stay {W W' : World} {m q : Nat} {z : List (Int × Int)} {cs : Array Value} {T : TypeId} {mk : Nat × Nat} (h : Im W (some m) z) (hg : W.grownBy W' (some m)) (hq : W.heap[q]? = some (.cells cs T mk)) : W'.heap[q]? = some (.cells cs T mk) := by
  obtain ⟨l, c, h1, _⟩ := h.made m rfl
  refine (hg.block _ (lt_of_heap hq) (fun e => ?_)).trans hq
  cases e
  have := h1.heap
  rw [hq] at this
  simp at this
section
variable {w W : World} {g r N c : Nat} {E : Nat → Prop} {fd fm : K3 → List (Int × Int)} {l : List (Ent K3)}
/-- w[k][f] = v, at a key that is there. -/
theorem DA.store (h : DA w W g r E fd fm N l c) (k : K3) (hk : k ∈ l.map Ent.k) (f v : Int) (h0 : 0 ≤ f) (h8 : f < 8) : ∃ m W', (Instr.lookup 26 (.map (some r)) (k3E k) false).run Tryz.prog W = .ok (.map (some m)) W ∧ (Instr.mapUpdate 33 (.map (some m)) (.int .i64 f) (.int .i64 v)).run Tryz.prog W = .ok () W' ∧ DA w W' g r E fd (updR fm k (putZ (fm k) f v)) N l c ∧ ∀ (q : Nat) (cs : Array Value) (T : TypeId) (mk : Nat × Nat), W.heap[q]? = some (Obj.cells cs T mk) → W'.heap[q]? = some (Obj.cells cs T mk) := by
  obtain ⟨mo, r1, r2, r3, r4⟩ := h.look k
  cases mo with
  | none => exact absurd hk (r3.1 rfl)
  | some m =>
    obtain ⟨W', q1, q2, q3⟩ := r2.put (h.okm k).1 f v
    exact ⟨m, W', r1, q1, (h.inner k (r4 m rfl) q2 ((h.okm k).put v h0 h8) q3).1, fun q cs T mk hq => r2.stay q3 hq⟩
/-- delete(w[k], f). -/
theorem DA.delete (h : DA w W g r E fd fm N l c) (k : K3) (f : Int) : ∃ mo W', (Instr.lookup 26 (.map (some r)) (k3E k) false).run Tryz.prog W = .ok (.map mo) W ∧ (∀ ty, (Builtin.delete_ #[33, 2] ty #[.map mo, .int .i64 f]).run Tryz.prog W = .ok (.tuple #[]) W') ∧ DA w W' g r E fd (updR fm k (cutZ (fm k) f)) N l c ∧ ∀ (q : Nat) (cs : Array Value) (T : TypeId) (mk : Nat × Nat), W.heap[q]? = some (Obj.cells cs T mk) → W'.heap[q]? = some (Obj.cells cs T mk) := by
  obtain ⟨mo, r1, r2, r3, r4⟩ := h.look k
  obtain ⟨W', q1, q2, q3⟩ := r2.del (h.okm k).1 f
  refine ⟨mo, W', r1, q1, ?_⟩
  cases mo with
  | none =>
    have hz := r2.nomap rfl
    have hb : Below W.heap.size W W' := (Below.refl W.heap.size W).grown q3 (Nat.le_refl _) (fun k hk => by cases hk)
    have he : updR fm k (cutZ (fm k) f) = fm := by
      funext j
      unfold updR
      split
      · rename_i e
        subst e
        rw [hz]
        rfl
      · rfl
    rw [he]
    exact ⟨h.later hb, fun q cs T mk hq => boxed_old hq hb⟩
  | some m => exact ⟨(h.inner k (r4 m rfl) q2 ((h.okm k).cut f) q3).1, fun q cs T mk hq => r2.stay q3 hq⟩
end
end Go.Proofs.YtdogecaonlmalaaGreat
