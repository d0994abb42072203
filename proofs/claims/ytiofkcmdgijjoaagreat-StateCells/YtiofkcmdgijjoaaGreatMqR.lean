/- Changes, as they come in: rows of changes at keys of state; cuts of rows of changes; a row laid behind another one; changes that there is room for. -/
import Derived.Test.YtiofkcmdgijjoaaGreatStaC
import Derived.Test.YtiofkcmdgijjoaaGreatRefM
import Derived.ProofKit
import Derived.OpenShut
import Derived.Deep.Slices
import Derived.Lib.SmallJoins
namespace Go.Proofs.YtiofkcmdgijjoaaGreat
open Go.ChangeShapes Go.WideShapes Go.RowKit Go.MapKept Go.ChangeMaps

theorem cellsMq : Tryz.prog.cellsOf 55 = 6 := by kernel_rfl
theorem cellsMqK : Tryz.prog.cellsOf 28 = 3 := by kernel_rfl
theorem cellsMqI : Tryz.prog.cellsOf 3 = 1 := by kernel_rfl
theorem cellsMqL : Tryz.prog.cellsOf 2 = 1 := by kernel_rfl

/-- The numbers of a change that came in. -/
structure wfQ (x : Mq) : Prop where
  c : (Lit.int .i64 x.c).wf = true
  f : (Lit.int .i64 x.f).wf = true
  v : (Lit.int .i64 x.v).wf = true

set_option maxRecDepth 100000 in
theorem open_mq {H : Type} {enc : TypeId × Value → H} {w : World} {base fuel : Nat} {spare : Nat → Bool} {held : Bool} {cs : List Value} {x : DataW H × List MemPlace}
    (h : DataW.trod enc Tryz.prog w base spare held fuel 55 cs = some x) : ∃ q : Mq, cs = mCs q.m ∧ wfQ q := by
  obtain ⟨y0, y1, y2, y3, n, _, hl, h0, h1, h2, h3⟩ := Joins.trod_struct4 Tryz.underlying55 h
  rw [cellsMq] at hl
  match cs, hl with
  | [v0, v1, v2, v3, v4, v5], _ =>
    simp only [cellsMqI, cellsMqK, cellsMqL] at h0 h1 h2 h3
    have h0' : DataW.trod enc Tryz.prog w base spare held n 3 [v0] = some y0 := h0
    have h1' : DataW.trod enc Tryz.prog w base spare held n 28 [v1, v2, v3] = some y1 := h1
    have h2' : DataW.trod enc Tryz.prog w base spare held n 2 [v4] = some y2 := h2
    have h3' : DataW.trod enc Tryz.prog w base spare held n 2 [v5] = some y3 := h3
    obtain ⟨z0, z1, z2, n', _, _, g0, g1, g2⟩ := Deep.trod_struct3 Tryz.underlying28 h1'
    simp only [cellsMqI] at g0 g1 g2
    have g0' : DataW.trod enc Tryz.prog w base spare held n' 3 [v1] = some z0 := g0
    have g1' : DataW.trod enc Tryz.prog w base spare held n' 3 [v2] = some z1 := g1
    have g2' : DataW.trod enc Tryz.prog w base spare held n' 3 [v3] = some z2 := g2
    obtain ⟨k, ek, _, wk⟩ := DataW.trod_int Tryz.underlying3 h0'
    obtain ⟨g, eg, _, wg⟩ := DataW.trod_int Tryz.underlying3 g0'
    obtain ⟨m, em, _, wm⟩ := DataW.trod_int Tryz.underlying3 g1'
    obtain ⟨i, ei, _, wi⟩ := DataW.trod_int Tryz.underlying3 g2'
    obtain ⟨f, ef, _, wf⟩ := DataW.trod_int Tryz.underlying2 h2'
    obtain ⟨v, ev, _, wv⟩ := DataW.trod_int Tryz.underlying2 h3'
    simp only [List.cons.injEq, and_true] at ek eg em ei ef ev
    subst ek; subst eg; subst em; subst ei; subst ef; subst ev
    exact ⟨⟨k, ⟨(g, m, i), wg, wm, wi⟩, f, v⟩, rfl, ⟨wk, wf, wv⟩⟩

theorem open_mqs {H : Type} {enc : TypeId × Value → H} {W : World} {fuel : Nat} {held : Bool} {cs : List Value} {x : DataW H × List MemPlace}
    (h : DataW.trod enc Tryz.prog W 0 (fun _ => true) held fuel 46 cs = some x) :
    cs = [.slice none 0 0] ∨ ∃ (a : Addr) (len cap : Nat) (xs : List Mq), cs = [.slice (some a) len cap] ∧ len ≤ cap ∧ cap ≤ maxLen ∧ Ms W (some a) len (xs.map Mq.m) ∧ ∀ q ∈ xs, wfQ q := by
  rcases Deep.open_slice Tryz.underlying46 h with ⟨h0, _⟩ | ⟨a, len, cap, m, n, D, Pl, rfl, _, hl, hm, hmm, _, hx⟩
  · exact Or.inl h0
  · right
    simp only [if_true] at hmm
    subst hmm
    rw [cellsMq] at hx
    have each : ∀ i, i < m → ∃ y : Mq, (∀ j, j < 6 → W.cell? (a.add (i * 6 + j)) = (mCs y.m)[j]?) ∧ wfQ y := by
      intro i hi
      obtain ⟨cs', h1, h2⟩ := hx i hi
      obtain ⟨y, rfl, wy⟩ := open_mq h2
      obtain ⟨_, _, hcell⟩ := World.cells?_some h1
      refine ⟨y, fun j hj => ?_, wy⟩
      rw [← hcell j hj, Deep.add_add]
    haveI : Inhabited Mq := ⟨⟨0, ⟨(0, 0, 0), by decide, by decide, by decide⟩, 0, 0⟩⟩
    obtain ⟨f, hf⟩ := Deep.choose_lt each
    refine ⟨a, len, m, (List.range len).map f, rfl, hl, hm, ⟨by simp, fun h0 => ?_⟩, fun y hy => ?_⟩
    · have hc := (hf 0 (by omega)).1 0 (by omega)
      obtain ⟨b, o, sp⟩ := a
      have hs : sp = none := by
        have hc' : W.cell? ((⟨b, o, sp⟩ : Addr).add 0) = some (.int .i64 (f 0).c) := hc
        simpa [Addr.add] using World.cell?_spot hc'
      subst hs
      refine ⟨b, o, rfl, fun i y hi => ?_⟩
      rw [List.map_map] at hi
      have hil : i < len := by
        have := (List.getElem?_eq_some_iff.1 hi).1
        simpa using this
      have hy : (f i).m = y := by simpa [hil] using hi
      subst hy
      have key := (hf i (by omega)).1
      have k0 := key 0 (by omega); have k1 := key 1 (by omega); have k2 := key 2 (by omega)
      have k3 := key 3 (by omega); have k4 := key 4 (by omega); have k5 := key 5 (by omega)
      simp only [Go.Proofs.YtiofkcmdgijjoaaGreat.add_none, mCs, Nat.add_zero, List.getElem?_cons_zero, List.getElem?_cons_succ, ← Nat.add_assoc] at k0 k1 k2 k3 k4 k5
      exact ⟨k0, k1, k2, k3, k4, k5⟩
    · obtain ⟨i, hi, rfl⟩ := List.mem_map.1 hy
      exact (hf i (by have := List.mem_range.1 hi; omega)).2

/-- Cuts of a row of changes. -/
theorem run_uptoM (a : Option Addr) (n cap j : Nat) (hj : j ≤ cap) (W : World) :
    (Instr.slice 46 (.slice a n cap) none (some (.int .i64 (j : Int))) none).run Tryz.prog W = .ok (.slice a j cap) W := by
  have e1 : (Instr.sliceBound (.int .i64 (j : Int)) cap .sliceAcap).run Tryz.prog W = .ok j W := by
    have := run_sliceBound (P := Tryz.prog) W .i64 (j : Int) cap .sliceAcap (by omega) (by omega)
    simpa using this
  simp [Instr.slice, Instr.sliceBounds, run_underlying Tryz.underlying46, e1]
  try (cases a <;> simp [Addr.add])

/-- Changes from the i-th on. -/
theorem run_fromM (a : Option Addr) (n cap i : Nat) (hi : i ≤ n) (_hc : n ≤ cap) (hsp : ∀ x, a = some x → x.spot = none) : ∃ x, (i < cap → x = a.map (fun q => ⟨q.block, q.off + i * 6, none⟩)) ∧ (∀ q, x = some q → ∃ p, a = some p ∧ p.block = q.block ∧ q.spot = none) ∧
    ∀ W : World, (Instr.slice 46 (.slice a n cap) (some (.int .i64 (i : Int))) none none).run Tryz.prog W = .ok (.slice x (n - i) (cap - i)) W := by
  have e2 : ∀ W, (Instr.sliceBound (.int .i64 (i : Int)) n .sliceB).run Tryz.prog W = .ok i W := fun W => by
    have := run_sliceBound (P := Tryz.prog) W .i64 (i : Int) n .sliceB (by omega) (by omega)
    simpa using this
  obtain ⟨i0, hi0, _, hz1, _⟩ := info_parts infoM
  have hz1' : i0.size = 6 := hz1
  cases a with
  | none =>
    refine ⟨none, fun _ => rfl, fun q e => (by cases e), fun W => ?_⟩
    simp [Instr.slice, Instr.sliceBounds, run_underlying Tryz.underlying46, e2, sizeOf, typeInfo, hi0]
  | some ad =>
    have hs := hsp ad rfl
    obtain ⟨b, o, sp⟩ := ad
    simp only at hs
    subst hs
    by_cases hic : cap = i
    · subst hic
      refine ⟨some ⟨b, o, none⟩, fun h => absurd h (Nat.lt_irrefl _), fun q e => ⟨_, rfl, by cases e; rfl, by cases e; rfl⟩, fun W => ?_⟩
      simp [Instr.slice, Instr.sliceBounds, run_underlying Tryz.underlying46, e2, sizeOf, typeInfo, hi0, hz1']
    · refine ⟨some ⟨b, o + i * 6, none⟩, fun _ => rfl, fun q e => ⟨_, rfl, by cases e; rfl, by cases e; rfl⟩, fun W => ?_⟩
      simp [Instr.slice, Instr.sliceBounds, run_underlying Tryz.underlying46, e2, sizeOf, typeInfo, hi0, hz1', hic, Addr.add]

theorem Ms.take {w : World} {pa : Option Addr} {m : Nat} {ms : List Mt} (h : Ms w pa m ms) (j : Nat) (hj : j ≤ m) : Ms w pa j (ms.take j) := by
  refine ⟨by rw [List.length_take, h.1]; omega, fun h0 => ?_⟩
  obtain ⟨b, o, rfl, hc⟩ := h.2 (by omega)
  refine ⟨b, o, rfl, fun i m hi => hc i m ?_⟩
  rw [List.getElem?_take] at hi
  split at hi
  · exact hi
  · cases hi
theorem Ms.drop {w : World} {pa x : Option Addr} {m : Nat} {ms : List Mt} (h : Ms w pa m ms) (j : Nat) (hj : j ≤ m) (hx : j < m → x = pa.map (fun q => ⟨q.block, q.off + j * 6, none⟩)) : Ms w x (m - j) (ms.drop j) := by
  refine ⟨by rw [List.length_drop, h.1], fun h0 => ?_⟩
  obtain ⟨b, o, rfl, hc⟩ := h.2 (by omega)
  refine ⟨b, o + j * 6, hx (by omega), fun i m hi => ?_⟩
  rw [List.getElem?_drop] at hi
  have := hc (j + i) m hi
  have e : o + (j + i) * 6 = o + j * 6 + i * 6 := by omega
  rw [e] at this
  exact this

theorem oneCell_mCs (ms : List Mt) : ∀ u ∈ ms.flatMap mCs, u.oneCell' = true := by
  intro u hu
  obtain ⟨m, _, hm⟩ := List.mem_flatMap.1 hu
  simp [mCs] at hm
  rcases hm with rfl | rfl | rfl | rfl | rfl | rfl <;> rfl
theorem flat_get (ms : List Mt) (j : Nat) (u : Value) (h : (ms.flatMap mCs)[j]? = some u) : ∃ i m t, j = i * 6 + t ∧ t < 6 ∧ ms[i]? = some m ∧ (mCs m)[t]? = some u := by
  have hl : j < ms.length * 6 := by
    have := (List.getElem?_eq_some_iff.1 h).1
    rw [flat_len] at this
    exact this
  have hi : j / 6 < ms.length := by omega
  refine ⟨j / 6, ms[j / 6], j % 6, by omega, by omega, List.getElem?_eq_getElem hi, ?_⟩
  have := flat_at ms (j / 6) (j % 6) ms[j / 6] (List.getElem?_eq_getElem hi) (by omega)
  rw [← this]
  have e : j / 6 * 6 + j % 6 = j := by omega
  rw [e]
  exact h

/-- append(own, changes...): whatever changes. -/
theorem run_appMs (w : World) (B : Nat) (v : Value) (ms : List Mt) (hown : OwnM w B v ms) (pa : Option Addr) (n c : Nat) (ns : List Mt) (hm : Ms w pa n ns) (hpc : pa = none → c = 0) (hsz : ms.length + n ≤ 1000000) (hB : B ≤ w.heap.size) :
    ∃ v' w', (∀ ty, (Builtin.append_ #[46, 46] ty #[v, .slice pa n c]).run Tryz.prog w = .ok v' w') ∧ OwnM w' B v' (ms ++ ns) ∧ w.grownBy w' v.ownBlock := by
  obtain ⟨i0, hi, hz0, hz1, hz2⟩ := info_parts infoM
  have hcell : ∀ ad, pa = some ad → ∀ j u, (ns.flatMap mCs)[j]? = some u → w.cell? (ad.add j) = some u := by
    intro ad ha j u hj
    obtain ⟨i, m, t, rfl, ht, hi', hu⟩ := flat_get ns j u hj
    have hn : 0 < n := by
      have := (List.getElem?_eq_some_iff.1 hi').1
      rw [hm.1] at this
      omega
    obtain ⟨b, of, e, hc⟩ := hm.2 hn
    rw [ha] at e
    obtain rfl : ad = ⟨b, of, none⟩ := by simpa using e
    obtain ⟨c0, c1, c2, c3, c4, c5⟩ := hc i m hi'
    rw [Go.Proofs.YtiofkcmdgijjoaaGreat.add_none, ← Nat.add_assoc]
    unfold mCs at hu
    match t, hu with
    | 0, hj => simp at hj; subst hj; exact c0
    | 1, hj => simp at hj; subst hj; exact c1
    | 2, hj => simp at hj; subst hj; exact c2
    | 3, hj => simp at hj; subst hj; exact c3
    | 4, hj => simp at hj; subst hj; exact c4
    | 5, hj => simp at hj; subst hj; exact c5
    | j + 6, hj => simp at hj
  cases pa with
  | none =>
    have hc : c = 0 := hpc rfl
    subst hc
    have hn : n = 0 := by
      rcases Nat.eq_zero_or_pos n with h | h
      · exact h
      · obtain ⟨b, o, e, _⟩ := hm.2 h
        cases e
    subst hn
    have e : ns = [] := List.length_eq_zero_iff.1 hm.1
    subst e
    have hrun := fun ty => run_append_owned_none (P := Tryz.prog) (w := w) B 46 ty 55 i0 6 Tryz.underlying46 hi v ms.length (ms.flatMap mCs) hown
    exact ⟨v, w, hrun, by simpa using hown, ⟨rfl, rfl, rfl, Nat.le_refl _, fun _ _ _ => rfl⟩⟩
  | some ad =>
    have key := fun ty => run_append_own_at (P := Tryz.prog) w B 46 ty 55 i0 _ 6 48 Tryz.underlying46 hi hz0 hz1 hz2 rfl (by decide) v ms.length (ms.flatMap mCs) hown ad n c (ns.flatMap mCs) (by rw [flat_len, hm.1]) (hcell ad rfl) (oneCell_mCs ns) (by simp only [maxLen]; omega) (by omega) hB
    obtain ⟨v', w', hrun, h2, h3, _, _⟩ := key 0
    refine ⟨v', w', fun ty => hrun, ?_, h3⟩
    unfold OwnM
    rw [List.length_append, List.flatMap_append, hm.1]
    exact h2

/-- Room for few changes. -/
theorem room_few (L : K3 → List Int) : ∀ (xs : List Mq) (lg : K3 → Option Int) (N : Nat), (∀ k, curL L lg k ≤ (N : Int)) → N + xs.length ≤ 100 → roomB L lg xs = true := by
  intro xs
  induction xs with
  | nil => intro lg N _ _; rfl
  | cons x xs ih =>
    intro lg N h hl
    rw [List.length_cons] at hl
    rw [roomB]
    have hk := h x.k
    rw [if_neg (fun e => by have := e.2; omega)]
    refine ih (lgS L lg x) (N + 1) (fun k => ?_) (by omega)
    have h2 := h k
    unfold lgS
    by_cases h3 : x.c = 3
    · rw [if_pos h3]
      by_cases ek : k = x.k
      · subst ek; simp [curL, updK] at *; omega
      · simp [curL, updK, ek] at *; omega
    · rw [if_neg h3]
      by_cases h4 : x.c = 4
      · rw [if_pos h4]
        by_cases ek : k = x.k
        · subst ek; simp [curL, updK]; omega
        · simp [curL, updK, ek] at *; omega
      · rw [if_neg h4]; omega
theorem doQ_len (a : Ab) (x : Mq) (k : K3) : ((doQ a x).L k).length ≤ (a.L k).length + 1 := by
  unfold doQ
  repeat' split
  all_goals first
    | exact Nat.le_succ _
    | skip
  · show (updR a.L x.k (a.L x.k ++ [x.v]) k).length ≤ _
    unfold updR
    split
    · rename_i e; subst e; simp
    · omega
  · show (updR a.L x.k [] k).length ≤ _
    unfold updR
    split
    · simp
    · omega
theorem runQ_len (k : K3) : ∀ (xs : List Mq) (a : Ab), ((runQ a xs).L k).length ≤ (a.L k).length + xs.length := by
  intro xs
  induction xs with
  | nil => intro a; exact Nat.le_refl _
  | cons x xs ih =>
    intro a
    have h1 := ih (doQ a x)
    have h2 := doQ_len a x k
    rw [List.length_cons]
    show ((runQ (doQ a x) xs).L k).length ≤ _
    omega
theorem runQ_app (a : Ab) (xs ys : List Mq) : runQ a (xs ++ ys) = runQ (runQ a xs) ys := List.foldl_append
end Go.Proofs.YtiofkcmdgijjoaaGreat
