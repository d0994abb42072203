/- Changes that came in. -/
import Derived.Test.YtgpfpmocdmeldaaGreatMutO
import Derived.ProofKit
import Derived.OpenShut
namespace Go.Proofs.YtgpfpmocdmeldaaGreat
open Go.ChangeShapes Go.WideShapes Go.RowKit

theorem cellsM : Tryz.prog.cellsOf 40 = 6 := by kernel_rfl
theorem cellsK : Tryz.prog.cellsOf 38 = 3 := by kernel_rfl
theorem cellsI : Tryz.prog.cellsOf 3 = 1 := by kernel_rfl
theorem cellsL : Tryz.prog.cellsOf 2 = 1 := by kernel_rfl

set_option maxRecDepth 100000 in
theorem open_mut {H : Type} {enc : TypeId × Value → H} {w : World} {base fuel : Nat} {spare : Nat → Bool} {held : Bool} {cs : List Value} {x : DataW H × List MemPlace}
    (h : DataW.trod enc Tryz.prog w base spare held fuel 40 cs = some x) : ∃ m : Mt, cs = mCs m ∧ wfM m := by
  obtain ⟨y0, y1, y2, y3, n, _, hl, h0, h1, h2, h3⟩ := Joins.trod_struct4 Tryz.underlying40 h
  rw [cellsM] at hl
  match cs, hl with
  | [v0, v1, v2, v3, v4, v5], _ =>
    simp only [cellsI, cellsK, cellsL] at h0 h1 h2 h3
    have h0' : DataW.trod enc Tryz.prog w base spare held n 3 [v0] = some y0 := h0
    have h1' : DataW.trod enc Tryz.prog w base spare held n 38 [v1, v2, v3] = some y1 := h1
    have h2' : DataW.trod enc Tryz.prog w base spare held n 2 [v4] = some y2 := h2
    have h3' : DataW.trod enc Tryz.prog w base spare held n 2 [v5] = some y3 := h3
    obtain ⟨z0, z1, z2, n', _, _, g0, g1, g2⟩ := Deep.trod_struct3 Tryz.underlying38 h1'
    simp only [cellsI] at g0 g1 g2
    have g0' : DataW.trod enc Tryz.prog w base spare held n' 3 [v1] = some z0 := g0
    have g1' : DataW.trod enc Tryz.prog w base spare held n' 3 [v2] = some z1 := g1
    have g2' : DataW.trod enc Tryz.prog w base spare held n' 3 [v3] = some z2 := g2
    obtain ⟨k, ek, _, wk⟩ := DataW.trod_int Tryz.underlying3 h0'
    obtain ⟨g, eg, _, _⟩ := DataW.trod_int Tryz.underlying3 g0'
    obtain ⟨m, em, _, _⟩ := DataW.trod_int Tryz.underlying3 g1'
    obtain ⟨i, ei, _, _⟩ := DataW.trod_int Tryz.underlying3 g2'
    obtain ⟨f, ef, _, _⟩ := DataW.trod_int Tryz.underlying2 h2'
    obtain ⟨v, ev, _, wv⟩ := DataW.trod_int Tryz.underlying2 h3'
    simp only [List.cons.injEq, and_true] at ek eg em ei ef ev
    subst ek; subst eg; subst em; subst ei; subst ef; subst ev
    exact ⟨⟨k, g, m, i, f, v⟩, rfl, wk, wv⟩

theorem open_muts {H : Type} {enc : TypeId × Value → H} {W : World} {fuel : Nat} {held : Bool} {cs : List Value} {x : DataW H × List MemPlace}
    (h : DataW.trod enc Tryz.prog W 0 (fun _ => true) held fuel 35 cs = some x) :
    cs = [.slice none 0 0] ∨ ∃ (a : Addr) (len cap : Nat) (ms : List Mt), cs = [.slice (some a) len cap] ∧ len ≤ cap ∧ cap ≤ maxLen ∧ Ms W (some a) len ms ∧ ∀ m ∈ ms, wfM m := by
  rcases Deep.open_slice Tryz.underlying35 h with ⟨h0, _⟩ | ⟨a, len, cap, m, n, D, Pl, rfl, _, hl, hm, hmm, _, hx⟩
  · exact Or.inl h0
  · right
    simp only [if_true] at hmm
    subst hmm
    rw [cellsM] at hx
    have each : ∀ i, i < m → ∃ y : Mt, (∀ j, j < 6 → W.cell? (a.add (i * 6 + j)) = (mCs y)[j]?) ∧ wfM y := by
      intro i hi
      obtain ⟨cs', h1, h2⟩ := hx i hi
      obtain ⟨y, rfl, wy⟩ := open_mut h2
      obtain ⟨_, _, hcell⟩ := World.cells?_some h1
      refine ⟨y, fun j hj => ?_, wy⟩
      rw [← hcell j hj, Deep.add_add]
    haveI : Inhabited Mt := ⟨zM⟩
    obtain ⟨f, hf⟩ := Deep.choose_lt each
    refine ⟨a, len, m, (List.range len).map f, rfl, hl, hm, ⟨by simp, fun h0 => ?_⟩, fun y hy => ?_⟩
    · have hc := (hf 0 (by omega)).1 0 (by omega)
      obtain ⟨b, o, sp⟩ := a
      have hs : sp = none := by
        have hc' : W.cell? ((⟨b, o, sp⟩ : Addr).add 0) = some (.int .i64 (f 0).k) := hc
        simpa [Addr.add] using World.cell?_spot hc'
      subst hs
      refine ⟨b, o, rfl, fun i y hi => ?_⟩
      have hil : i < len := by
        have := (List.getElem?_eq_some_iff.1 hi).1
        simpa using this
      have hy : f i = y := by simpa [hil] using hi
      subst hy
      have key := (hf i (by omega)).1
      have k0 := key 0 (by omega); have k1 := key 1 (by omega); have k2 := key 2 (by omega)
      have k3 := key 3 (by omega); have k4 := key 4 (by omega); have k5 := key 5 (by omega)
      simp only [Go.Proofs.YtgpfpmocdmeldaaGreat.add_none, mCs, Nat.add_zero, List.getElem?_cons_zero, List.getElem?_cons_succ, ← Nat.add_assoc] at k0 k1 k2 k3 k4 k5
      exact ⟨k0, k1, k2, k3, k4, k5⟩
    · obtain ⟨i, hi, rfl⟩ := List.mem_map.1 hy
      exact (hf i (by have := List.mem_range.1 hi; omega)).2
end Go.Proofs.YtgpfpmocdmeldaaGreat
