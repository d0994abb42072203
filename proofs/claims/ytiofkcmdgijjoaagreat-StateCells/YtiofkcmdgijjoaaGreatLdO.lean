/- Cells, as they come in; rows of them that can be read whatever turns. -/
import Derived.Test.YtiofkcmdgijjoaaGreatRefZ
import Derived.Test.YtiofkcmdgijjoaaGreatKopR
namespace Go.Proofs.YtiofkcmdgijjoaaGreat
open Go.ChangeShapes Go.WideShapes Go.RowKit Go.MapKept Go.ChangeMaps

/-- A cell, whatever it holds. -/
structure Cw where
  k : K3
  h : Bool
  v : Int
  l : List Int
  d : List (Int × Int)
def Cw.cl (c : Cw) : Cl := ⟨c.k, if c.h = true then some c.v else none, c.l, c.d⟩
def Cl.cw (c : Cl) : Cw := ⟨c.k, c.v.isSome, c.v.getD 0, c.l, c.d⟩
theorem Cl.cw_cl (c : Cl) : c.cw.cl = c := by
  obtain ⟨k, v, l, d⟩ := c
  cases v <;> rfl
/-- The cells of x lie at p, the rows that they name are there too. -/
structure At7 (w : World) (b o : Nat) (x : Cw) (lp : Option Addr) (lc : Nat) (dp : Option Addr) (dc : Nat) : Prop where
  c0 : w.cell? ⟨b, o, none⟩ = some (.int .i64 x.k.g)
  c1 : w.cell? ⟨b, o + 1, none⟩ = some (.int .i64 x.k.n)
  c2 : w.cell? ⟨b, o + 2, none⟩ = some (.int .i64 x.k.i)
  c3 : w.cell? ⟨b, o + 3, none⟩ = some (.bool x.h)
  c4 : w.cell? ⟨b, o + 4, none⟩ = some (.int .i64 x.v)
  c5 : w.cell? ⟨b, o + 5, none⟩ = some (.slice lp x.l.length lc)
  c6 : w.cell? ⟨b, o + 6, none⟩ = some (.slice dp x.d.length dc)
  rl : Rd w lp x.l.length lc x.l
  rd : RdF w dp x.d.length dc x.d
theorem At7.later {w w' : World} {b o : Nat} {x : Cw} {lp dp : Option Addr} {lc dc : Nat} (h : At7 w b o x lp lc dp dc) (hb : Below w.heap.size w w') : At7 w' b o x lp lc dp dc :=
  ⟨same_cell hb h.c0, same_cell hb h.c1, same_cell hb h.c2, same_cell hb h.c3, same_cell hb h.c4, same_cell hb h.c5, same_cell hb h.c6, h.rl.later hb, h.rd.later hb⟩
/-- A row of such cells. -/
def RdW (w : World) (v : Value) (cs : List Cw) : Prop := ∃ pa cap, v = .slice pa cs.length cap ∧ (0 < cs.length → ∃ b o, pa = some ⟨b, o, none⟩ ∧ ∀ i x, cs[i]? = some x → ∃ lp lc dp dc, At7 w b (o + i * 7) x lp lc dp dc)
theorem RdW.later {w w' : World} {v : Value} {cs : List Cw} (h : RdW w v cs) (hb : Below w.heap.size w w') : RdW w' v cs := by
  obtain ⟨pa, cap, rfl, h2⟩ := h
  refine ⟨pa, cap, rfl, fun h0 => ?_⟩
  obtain ⟨b, o, rfl, h3⟩ := h2 h0
  refine ⟨b, o, rfl, fun i x hx => ?_⟩
  obtain ⟨lp, lc, dp, dc, h4⟩ := h3 i x hx
  exact ⟨lp, lc, dp, dc, h4.later hb⟩
theorem RdC.rdW {w : World} {v : Value} {cs : List Cl} (h : RdC w v cs) : RdW w v (cs.map Cl.cw) := by
  obtain ⟨pa, cap, rfl, h2⟩ := h
  refine ⟨pa, cap, by rw [List.length_map], fun h0 => ?_⟩
  obtain ⟨b, o, rfl, h3⟩ := h2 (by rwa [List.length_map] at h0)
  refine ⟨b, o, rfl, fun i x hx => ?_⟩
  rw [List.getElem?_map] at hx
  obtain ⟨y, hy, rfl⟩ := Option.map_eq_some_iff.1 hx
  obtain ⟨lp, lc, dp, dc, q0, q1, q2, q3, q4, q5, q6, r1, r2⟩ := h3 i y hy
  exact ⟨lp, lc, dp, dc, q0, q1, q2, q3, q4, q5, q6, r1, r2⟩
theorem RdW.rdC {w : World} {v : Value} {cs : List Cw} (h : RdW w v cs) (hv : ∀ c ∈ cs, c.h = false → c.v = 0) : RdC w v (cs.map Cw.cl) := by
  obtain ⟨pa, cap, rfl, h2⟩ := h
  refine ⟨pa, cap, by rw [List.length_map], fun h0 => ?_⟩
  obtain ⟨b, o, rfl, h3⟩ := h2 (by rwa [List.length_map] at h0)
  refine ⟨b, o, rfl, fun i x hx => ?_⟩
  rw [List.getElem?_map] at hx
  obtain ⟨y, hy, rfl⟩ := Option.map_eq_some_iff.1 hx
  obtain ⟨lp, lc, dp, dc, q⟩ := h3 i y hy
  have hz := hv y (List.mem_of_getElem? hy)
  obtain ⟨k, hh, hv, l, d⟩ := y
  obtain ⟨q0, q1, q2, q3, q4, q5, q6, r1, r2⟩ := q
  refine ⟨lp, lc, dp, dc, q0, q1, q2, ?_, ?_, q5, q6, r1, r2⟩
  · cases hh <;> exact q3
  · cases hh
    · have : hv = 0 := hz rfl
      subst this
      exact q4
    · exact q4
/-- Fewer of them. -/
theorem RdW.take {w : World} {pa : Option Addr} {n cap : Nat} {cs : List Cw} (h : RdW w (.slice pa n cap) cs) (m : Nat) (hm : m ≤ n) : RdW w (.slice pa m cap) (cs.take m) := by
  obtain ⟨pa', cap', e, h2⟩ := h
  obtain ⟨rfl, rfl, rfl⟩ : pa = pa' ∧ n = cs.length ∧ cap = cap' := by simpa using e
  refine ⟨pa, cap, by rw [List.length_take, Nat.min_eq_left hm], fun h0 => ?_⟩
  obtain ⟨b, o, rfl, h3⟩ := h2 (by rw [List.length_take] at h0; omega)
  refine ⟨b, o, rfl, fun i x hx => h3 i x ?_⟩
  by_cases hi : i < m
  · rwa [List.getElem?_take_of_lt hi] at hx
  · rw [List.getElem?_take_eq_none (by omega)] at hx; cases hx

theorem cellsFd : Tryz.prog.cellsOf 43 = 2 := by kernel_rfl
theorem cellsCw : Tryz.prog.cellsOf 73 = 7 := by kernel_rfl
theorem cellsBo : Tryz.prog.cellsOf 4 = 1 := by kernel_rfl
theorem cellsFs : Tryz.prog.cellsOf 39 = 1 := by kernel_rfl
theorem flatF_inv (z : List (Int × Int)) (j : Nat) (u : Value) (h : (z.flatMap fdC)[j]? = some u) : ∃ p, z[j / 2]? = some p ∧ (fdC p)[j % 2]? = some u := by
  induction z generalizing j with
  | nil => simp at h
  | cons x z ih =>
    rw [List.flatMap_cons] at h
    by_cases hj : j < 2
    · rw [List.getElem?_append_left (by simp [fdC]; omega)] at h
      have h0 : j / 2 = 0 := by omega
      have h1 : j % 2 = j := by omega
      exact ⟨x, by rw [h0]; rfl, by rw [h1]; exact h⟩
    · rw [List.getElem?_append_right (by simp [fdC]; omega)] at h
      have e : j - (fdC x).length = j - 2 := rfl
      rw [e] at h
      obtain ⟨p, h1, h2⟩ := ih (j - 2) h
      have h3 : j / 2 = (j - 2) / 2 + 1 := by omega
      have h4 : j % 2 = (j - 2) % 2 := by omega
      exact ⟨p, by rw [h3]; simpa using h1, by rw [h4]; exact h2⟩
set_option maxRecDepth 100000 in
theorem open_field {H : Type} {enc : TypeId × Value → H} {w : World} {base fuel : Nat} {held : Bool} {cs : List Value} {x : DataW H × List MemPlace}
    (h : DataW.trod enc Tryz.prog w base (fun _ => true) held fuel 43 cs = some x) : ∃ p : Int × Int, cs = fdC p := by
  obtain ⟨y0, y1, n, _, hl, h0, h1⟩ := trod_struct2 Tryz.underlying43 h
  rw [cellsFd] at hl
  match cs, hl with
  | [v0, v1], _ =>
    simp only [cellsKoL] at h0 h1
    have h0' : DataW.trod enc Tryz.prog w base (fun _ => true) held n 2 [v0] = some y0 := h0
    have h1' : DataW.trod enc Tryz.prog w base (fun _ => true) held n 2 [v1] = some y1 := h1
    obtain ⟨f, ef, _, _⟩ := DataW.trod_int Tryz.underlying2 h0'
    obtain ⟨v, ev, _, _⟩ := DataW.trod_int Tryz.underlying2 h1'
    simp only [List.cons.injEq, and_true] at ef ev
    subst ef; subst ev
    exact ⟨(f, v), rfl⟩
set_option maxRecDepth 100000 in
theorem open_fields {H : Type} {enc : TypeId × Value → H} {w : World} {base fuel : Nat} {held : Bool} {cs : List Value} {x : DataW H × List MemPlace}
    (h : DataW.trod enc Tryz.prog w base (fun _ => true) held fuel 39 cs = some x) : ∃ ao len cap zs, cs = [.slice ao len cap] ∧ RdF w ao len cap zs := by
  rcases Deep.open_slice Tryz.underlying39 h with ⟨h0, _⟩ | ⟨a, len, cap, m, n, D, Pl, rfl, _, hl, hm, hmm, _, hx⟩
  · exact ⟨none, 0, 0, [], h0, rfl, fun _ => ⟨rfl, rfl⟩, fun a ha => (by cases ha), Nat.le_refl _⟩
  · simp only [if_true] at hmm
    subst hmm
    rw [cellsFd] at hx
    have each : ∀ i, i < m → ∃ p : Int × Int, ∀ j, j < 2 → w.cell? (a.add (i * 2 + j)) = (fdC p)[j]? := by
      intro i hi
      obtain ⟨cs', h1, h2⟩ := hx i hi
      obtain ⟨p, rfl⟩ := open_field h2
      obtain ⟨_, _, hcell⟩ := World.cells?_some h1
      refine ⟨p, fun j hj => ?_⟩
      rw [← hcell j hj, Deep.add_add]
    obtain ⟨f, hf⟩ := Deep.choose_lt each
    refine ⟨some a, len, m, (List.range len).map f, rfl, by simp, fun e => (by cases e), fun a' ha j u hj => ?_, hl⟩
    cases ha
    obtain ⟨p, h1, h2⟩ := flatF_inv _ j u hj
    have hlt : j / 2 < len := by
      have := (List.getElem?_eq_some_iff.1 h1).1
      simpa using this
    have hp : f (j / 2) = p := by simpa [hlt] using h1
    have := hf (j / 2) (by omega) (j % 2) (by omega)
    rw [show j / 2 * 2 + j % 2 = j by omega, hp, h2] at this
    exact this
set_option maxRecDepth 100000 in
theorem open_cell {H : Type} {enc : TypeId × Value → H} {w : World} {base fuel : Nat} {held : Bool} {cs : List Value} {x : DataW H × List MemPlace}
    (h : DataW.trod enc Tryz.prog w base (fun _ => true) held fuel 73 cs = some x) : ∃ (d : Cw) (lp : Option Addr) (lc : Nat) (dp : Option Addr) (dc : Nat), cs = [.int .i64 d.k.g, .int .i64 d.k.n, .int .i64 d.k.i, .bool d.h, .int .i64 d.v, .slice lp d.l.length lc, .slice dp d.d.length dc] ∧ Rd w lp d.l.length lc d.l ∧ RdF w dp d.d.length dc d.d := by
  obtain ⟨y0, y1, y2, y3, y4, n, hl, h0, h1, h2, h3, h4⟩ := trod_s5 Tryz.underlying73 h
  rw [cellsCw] at hl
  match cs, hl with
  | [v0, v1, v2, v3, v4, v5, v6], _ =>
    simp only [cellsKoK, cellsBo, cellsKoL, cellsKoS, cellsFs] at h0 h1 h2 h3 h4
    have h0' : DataW.trod enc Tryz.prog w base (fun _ => true) held n 28 [v0, v1, v2] = some y0 := h0
    have h1' : DataW.trod enc Tryz.prog w base (fun _ => true) held n 4 [v3] = some y1 := h1
    have h2' : DataW.trod enc Tryz.prog w base (fun _ => true) held n 2 [v4] = some y2 := h2
    have h3' : DataW.trod enc Tryz.prog w base (fun _ => true) held n 29 [v5] = some y3 := h3
    have h4' : DataW.trod enc Tryz.prog w base (fun _ => true) held n 39 [v6] = some y4 := h4
    obtain ⟨z0, z1, z2, n', _, _, g0, g1, g2⟩ := Deep.trod_struct3 Tryz.underlying28 h0'
    simp only [cellsKoI] at g0 g1 g2
    have g0' : DataW.trod enc Tryz.prog w base (fun _ => true) held n' 3 [v0] = some z0 := g0
    have g1' : DataW.trod enc Tryz.prog w base (fun _ => true) held n' 3 [v1] = some z1 := g1
    have g2' : DataW.trod enc Tryz.prog w base (fun _ => true) held n' 3 [v2] = some z2 := g2
    obtain ⟨g, eg, _, wg⟩ := DataW.trod_int Tryz.underlying3 g0'
    obtain ⟨m, em, _, wm⟩ := DataW.trod_int Tryz.underlying3 g1'
    obtain ⟨i, ei, _, wi⟩ := DataW.trod_int Tryz.underlying3 g2'
    obtain ⟨hb, eb, _⟩ := DataW.trod_bool Tryz.underlying4 h1'
    obtain ⟨v, ev, _, wv⟩ := DataW.trod_int Tryz.underlying2 h2'
    obtain ⟨dp, dn, dc, zd, ed, rd⟩ := open_fields h4'
    simp only [List.cons.injEq, and_true] at eg em ei eb ev ed
    subst eg; subst em; subst ei; subst eb; subst ev; subst ed
    have hdn := rd.len
    subst hdn
    rcases open_ints Tryz.underlying29 Tryz.underlying2 (by kernel_rfl) h3' with ⟨hcs, _⟩ | ⟨x, l, c, zs, hcs, _, hl, hm, hz, _, hcell, hwz⟩
    · simp only [List.cons.injEq, and_true] at hcs
      subst hcs
      exact ⟨⟨⟨(g, m, i), wg, wm, wi⟩, hb, v, [], zd⟩, none, 0, dp, dc, rfl, ⟨rfl, fun _ => ⟨rfl, rfl⟩, fun a ha => (by cases ha), Nat.le_refl _⟩, rd⟩
    · simp only [List.cons.injEq, and_true] at hcs
      subst hcs
      have hz' : zs.length = c := by simpa using hz
      have hlen : (zs.take l).length = l := by rw [List.length_take]; omega
      refine ⟨⟨⟨(g, m, i), wg, wm, wi⟩, hb, v, zs.take l, zd⟩, some x, c, dp, dc, by show _ = [_, _, _, _, _, Value.slice (some x) (zs.take l).length c, _]; rw [hlen], ⟨rfl, fun e => (by cases e), fun a ha j u hj => ?_, by show (zs.take l).length ≤ c; omega⟩, rd⟩
      cases ha
      rw [List.getElem?_map] at hj
      by_cases hjl : j < l
      · rw [List.getElem?_take_of_lt hjl, List.getElem?_eq_getElem (by omega)] at hj
        have := hcell j (by omega)
        rw [List.getD_eq_getElem?_getD, List.getElem?_eq_getElem (by omega)] at this
        rw [this]
        simpa using hj
      · rw [List.getElem?_take_eq_none (by omega)] at hj
        cases hj

set_option maxRecDepth 100000 in
theorem open_cells {H : Type} {enc : TypeId × Value → H} {W : World} {fuel : Nat} {held : Bool} {cs : List Value} {x : DataW H × List MemPlace}
    (h : DataW.trod enc Tryz.prog W 0 (fun _ => true) held fuel 65 cs = some x) :
    ∃ (a : Option Addr) (len cap : Nat) (ds : List Cw), cs = [.slice a len cap] ∧ ds.length = len ∧ len ≤ cap ∧ cap ≤ maxLen ∧ RdW W (.slice a len cap) ds := by
  rcases Deep.open_slice Tryz.underlying65 h with ⟨h0, _⟩ | ⟨a, len, cap, m, n, D, Pl, rfl, _, hl, hm, hmm, _, hx⟩
  · exact ⟨none, 0, 0, [], h0, rfl, Nat.le_refl _, Nat.zero_le _, none, 0, rfl, fun e => absurd e (Nat.lt_irrefl _)⟩
  · simp only [if_true] at hmm
    subst hmm
    rw [cellsCw] at hx
    have each : ∀ i, i < m → ∃ (y : Cw), ∃ (lp : Option Addr) (lc : Nat) (dp : Option Addr) (dc : Nat), (∀ j, j < 7 → W.cell? (a.add (i * 7 + j)) = ([.int .i64 y.k.g, .int .i64 y.k.n, .int .i64 y.k.i, .bool y.h, .int .i64 y.v, .slice lp y.l.length lc, .slice dp y.d.length dc] : List Value)[j]?) ∧ Rd W lp y.l.length lc y.l ∧ RdF W dp y.d.length dc y.d := by
      intro i hi
      obtain ⟨cs', h1, h2⟩ := hx i hi
      obtain ⟨y, lp, lc, dp, dc, rfl, r1, r2⟩ := open_cell h2
      obtain ⟨_, _, hcell⟩ := World.cells?_some h1
      refine ⟨y, lp, lc, dp, dc, fun j hj => ?_, r1, r2⟩
      rw [← hcell j hj, Deep.add_add]
    haveI : Inhabited Cw := ⟨⟨⟨(0, 0, 0), by decide, by decide, by decide⟩, false, 0, [], []⟩⟩
    obtain ⟨f, hf⟩ := Deep.choose_lt each
    refine ⟨some a, len, m, (List.range len).map f, rfl, by simp, hl, hm, some a, m, by simp, fun h0 => ?_⟩
    rw [List.length_map, List.length_range] at h0
    obtain ⟨lp0, lc0, dp0, dc0, hc0, _, _⟩ := hf 0 (by omega)
    have hc := hc0 0 (by omega)
    obtain ⟨b, o, sp⟩ := a
    have hs : sp = none := by
      have hc' : W.cell? ((⟨b, o, sp⟩ : Addr).add 0) = some (.int .i64 (f 0).k.g) := hc
      simpa [Addr.add] using World.cell?_spot hc'
    subst hs
    refine ⟨b, o, rfl, fun i y hi => ?_⟩
    have hil : i < len := by
      have := (List.getElem?_eq_some_iff.1 hi).1
      simpa using this
    have hy : f i = y := by simpa [hil] using hi
    subst hy
    obtain ⟨lp, lc, dp, dc, key, r1, r2⟩ := hf i (by omega)
    have k0 := key 0 (by omega); have k1 := key 1 (by omega); have k2 := key 2 (by omega)
    have k3 := key 3 (by omega); have k4 := key 4 (by omega); have k5 := key 5 (by omega); have k6 := key 6 (by omega)
    simp only [Go.Proofs.YtiofkcmdgijjoaaGreat.add_none, Nat.add_zero, List.getElem?_cons_zero, List.getElem?_cons_succ, ← Nat.add_assoc] at k0 k1 k2 k3 k4 k5 k6
    exact ⟨lp, lc, dp, dc, k0, k1, k2, k3, k4, k5, k6, r1, r2⟩
end Go.Proofs.YtiofkcmdgijjoaaGreat
