/- Steps at keys, as they come in. -/
import Derived.Test.YtdogecaonlmalaaGreatRowM
import Derived.ProofKit
import Derived.OpenShut
import Derived.Deep.Slices
import Derived.Lib.SmallJoins
namespace Go.Proofs.YtdogecaonlmalaaGreat
open Go.ChangeShapes Go.WideShapes Go.RowKit

/-- One step: its kind, its key, a field's number, a value, numbers. -/
structure Kop where
  c : Int
  k : K3
  f : Int
  v : Int
  a : Option Addr
  n : Nat
  cp : Nat
  z : List Int
def koCs (d : Kop) : List Value := [.int .i64 d.c, .int .i64 d.k.g, .int .i64 d.k.n, .int .i64 d.k.i, .int .i64 d.f, .int .i64 d.v, .slice d.a d.n d.cp]
structure wfKo (w : World) (d : Kop) : Prop where
  rd : Rd w d.a d.n d.cp d.z
  cap : d.cp ≤ maxLen
  f : (Lit.int .i64 d.f).wf = true
  v : (Lit.int .i64 d.v).wf = true
  wz : ∀ x ∈ d.z, (Lit.int .i64 x).wf = true
theorem wfKo.later {w w' : World} {d : Kop} (h : wfKo w d) (hb : Below w.heap.size w w') : wfKo w' d := ⟨h.rd.later hb, h.cap, h.f, h.v, h.wz⟩

def Kos (w : World) (pa : Option Addr) (m : Nat) (ds : List Kop) : Prop :=
  ds.length = m ∧ (0 < m → ∃ b o, pa = some ⟨b, o, none⟩ ∧ ∀ i d, ds[i]? = some d →
    w.cell? ⟨b, o + i * 7, none⟩ = some (.int .i64 d.c) ∧ w.cell? ⟨b, o + i * 7 + 1, none⟩ = some (.int .i64 d.k.g) ∧ w.cell? ⟨b, o + i * 7 + 2, none⟩ = some (.int .i64 d.k.n) ∧ w.cell? ⟨b, o + i * 7 + 3, none⟩ = some (.int .i64 d.k.i) ∧
    w.cell? ⟨b, o + i * 7 + 4, none⟩ = some (.int .i64 d.f) ∧ w.cell? ⟨b, o + i * 7 + 5, none⟩ = some (.int .i64 d.v) ∧ w.cell? ⟨b, o + i * 7 + 6, none⟩ = some (.slice d.a d.n d.cp))
theorem Kos.later {w w' : World} {B : Nat} {pa : Option Addr} {m : Nat} {ds : List Kop} (h : Kos w pa m ds) (hb : Below B w w') (hB : w.heap.size ≤ B) : Kos w' pa m ds := by
  refine ⟨h.1, fun h0 => ?_⟩
  obtain ⟨b, o, rfl, hc⟩ := h.2 h0
  refine ⟨b, o, rfl, fun i d hi => ?_⟩
  obtain ⟨k0, k1, k2, k3, k4, k5, k6⟩ := hc i d hi
  have mv : ∀ {p : Addr} {v : Value}, w.cell? p = some v → w'.cell? p = some v := fun {p v} hk => (hb.cell (Nat.lt_of_lt_of_le (lt_of_cell hk) hB)).trans hk
  exact ⟨mv k0, mv k1, mv k2, mv k3, mv k4, mv k5, mv k6⟩

theorem cellsKo : Tryz.prog.cellsOf 31 = 7 := by kernel_rfl
theorem cellsKoI : Tryz.prog.cellsOf 3 = 1 := by kernel_rfl
theorem cellsKoL : Tryz.prog.cellsOf 2 = 1 := by kernel_rfl
theorem cellsKoS : Tryz.prog.cellsOf 29 = 1 := by kernel_rfl
theorem cellsKoK : Tryz.prog.cellsOf 28 = 3 := by kernel_rfl

theorem trod_s5 {H : Type} {enc : TypeId × Value → H} {P : Program} {w : World} {base : Nat} {spare : Nat → Bool} {held : Bool} {t : TypeId} {f0 f1 f2 f3 f4 : Field} {fuel : Nat} {cs : List Value} {x : DataW H × List MemPlace} (ht : P.underlying t = some (.struct #[f0, f1, f2, f3, f4])) (h : DataW.trod enc P w base spare held fuel t cs = some x) :
    ∃ y0 y1 y2 y3 y4 n, cs.length = P.cellsOf t ∧ DataW.trod enc P w base spare held n f0.type ((cs.drop f0.offset).take (P.cellsOf f0.type)) = some y0 ∧
      DataW.trod enc P w base spare held n f1.type ((cs.drop f1.offset).take (P.cellsOf f1.type)) = some y1 ∧ DataW.trod enc P w base spare held n f2.type ((cs.drop f2.offset).take (P.cellsOf f2.type)) = some y2 ∧
      DataW.trod enc P w base spare held n f3.type ((cs.drop f3.offset).take (P.cellsOf f3.type)) = some y3 ∧ DataW.trod enc P w base spare held n f4.type ((cs.drop f4.offset).take (P.cellsOf f4.type)) = some y4 := by
  obtain ⟨xs, n, _, rfl, hl, hlen, hf⟩ := DataW.trod_struct ht h
  match xs, hlen with
  | [y0, y1, y2, y3, y4], _ => exact ⟨y0, y1, y2, y3, y4, n, hl, by simpa using hf 0 f0 rfl, by simpa using hf 1 f1 rfl, by simpa using hf 2 f2 rfl, by simpa using hf 3 f3 rfl, by simpa using hf 4 f4 rfl⟩

set_option maxRecDepth 100000 in
theorem open_kop {H : Type} {enc : TypeId × Value → H} {w : World} {base fuel : Nat} {held : Bool} {cs : List Value} {x : DataW H × List MemPlace}
    (h : DataW.trod enc Tryz.prog w base (fun _ => true) held fuel 31 cs = some x) : ∃ d : Kop, cs = koCs d ∧ wfKo w d := by
  obtain ⟨y0, y1, y2, y3, y4, n, hl, h0, h1, h2, h3, h4⟩ := trod_s5 Tryz.underlying31 h
  rw [cellsKo] at hl
  match cs, hl with
  | [v0, v1, v2, v3, v4, v5, v6], _ =>
    simp only [cellsKoI, cellsKoL, cellsKoS, cellsKoK] at h0 h1 h2 h3 h4
    have h0' : DataW.trod enc Tryz.prog w base (fun _ => true) held n 3 [v0] = some y0 := h0
    have h1' : DataW.trod enc Tryz.prog w base (fun _ => true) held n 28 [v1, v2, v3] = some y1 := h1
    have h2' : DataW.trod enc Tryz.prog w base (fun _ => true) held n 2 [v4] = some y2 := h2
    have h3' : DataW.trod enc Tryz.prog w base (fun _ => true) held n 2 [v5] = some y3 := h3
    have h4' : DataW.trod enc Tryz.prog w base (fun _ => true) held n 29 [v6] = some y4 := h4
    obtain ⟨z0, z1, z2, n', _, _, g0, g1, g2⟩ := Deep.trod_struct3 Tryz.underlying28 h1'
    simp only [cellsKoI] at g0 g1 g2
    have g0' : DataW.trod enc Tryz.prog w base (fun _ => true) held n' 3 [v1] = some z0 := g0
    have g1' : DataW.trod enc Tryz.prog w base (fun _ => true) held n' 3 [v2] = some z1 := g1
    have g2' : DataW.trod enc Tryz.prog w base (fun _ => true) held n' 3 [v3] = some z2 := g2
    obtain ⟨k, ek, _, _⟩ := DataW.trod_int Tryz.underlying3 h0'
    obtain ⟨g, eg, _, wg⟩ := DataW.trod_int Tryz.underlying3 g0'
    obtain ⟨m, em, _, wm⟩ := DataW.trod_int Tryz.underlying3 g1'
    obtain ⟨i, ei, _, wi⟩ := DataW.trod_int Tryz.underlying3 g2'
    obtain ⟨f, ef, _, wf⟩ := DataW.trod_int Tryz.underlying2 h2'
    obtain ⟨v, ev, _, wv⟩ := DataW.trod_int Tryz.underlying2 h3'
    simp only [List.cons.injEq, and_true] at ek eg em ei ef ev
    subst ek; subst eg; subst em; subst ei; subst ef; subst ev
    rcases open_ints Tryz.underlying29 Tryz.underlying2 (by kernel_rfl) h4' with ⟨hcs, _⟩ | ⟨x, l, c, zs, hcs, _, hl, hm, hz, _, hcell, hwz⟩
    · simp only [List.cons.injEq, and_true] at hcs
      subst hcs
      exact ⟨⟨k, ⟨(g, m, i), wg, wm, wi⟩, f, v, none, 0, 0, []⟩, rfl, ⟨⟨rfl, fun _ => ⟨rfl, rfl⟩, fun a ha => (by cases ha), Nat.le_refl _⟩, Nat.zero_le _, wf, wv, fun x hx => by simp at hx⟩⟩
    · simp only [List.cons.injEq, and_true] at hcs
      subst hcs
      have hz' : zs.length = c := by simpa using hz
      refine ⟨⟨k, ⟨(g, m, i), wg, wm, wi⟩, f, v, some x, l, c, zs.take l⟩, rfl, ⟨⟨by simp only [List.length_take]; omega, fun e => (by cases e), fun a ha j u hj => ?_, hl⟩, hm, wf, wv, fun y hy => hwz y (List.mem_of_mem_take hy)⟩⟩
      cases ha
      rw [List.getElem?_map] at hj
      by_cases hjl : j < l
      · rw [List.getElem?_take_of_lt hjl, List.getElem?_eq_getElem (by omega)] at hj
        have := hcell j (by omega)
        rw [List.getD_eq_getElem?_getD, List.getElem?_eq_getElem (by omega)] at this
        rw [this]
        simpa using hj
      · rw [List.getElem?_take_eq_none (by omega)] at hj
        cases hj

theorem open_kops {H : Type} {enc : TypeId × Value → H} {W : World} {fuel : Nat} {held : Bool} {cs : List Value} {x : DataW H × List MemPlace}
    (h : DataW.trod enc Tryz.prog W 0 (fun _ => true) held fuel 22 cs = some x) :
    cs = [.slice none 0 0] ∨ ∃ (a : Addr) (len cap : Nat) (ds : List Kop), cs = [.slice (some a) len cap] ∧ len ≤ cap ∧ cap ≤ maxLen ∧ Kos W (some a) len ds ∧ ∀ d ∈ ds, wfKo W d := by
  rcases Deep.open_slice Tryz.underlying22 h with ⟨h0, _⟩ | ⟨a, len, cap, m, n, D, Pl, rfl, _, hl, hm, hmm, _, hx⟩
  · exact Or.inl h0
  · right
    simp only [if_true] at hmm
    subst hmm
    rw [cellsKo] at hx
    have each : ∀ i, i < m → ∃ y : Kop, (∀ j, j < 7 → W.cell? (a.add (i * 7 + j)) = (koCs y)[j]?) ∧ wfKo W y := by
      intro i hi
      obtain ⟨cs', h1, h2⟩ := hx i hi
      obtain ⟨y, rfl, wy⟩ := open_kop h2
      obtain ⟨_, _, hcell⟩ := World.cells?_some h1
      refine ⟨y, fun j hj => ?_, wy⟩
      rw [← hcell j hj, Deep.add_add]
    haveI : Inhabited Kop := ⟨⟨0, ⟨(0, 0, 0), by decide, by decide, by decide⟩, 0, 0, none, 0, 0, []⟩⟩
    obtain ⟨f, hf⟩ := Deep.choose_lt each
    refine ⟨a, len, m, (List.range len).map f, rfl, hl, hm, ⟨by simp, fun h0 => ?_⟩, fun y hy => ?_⟩
    · have hc := (hf 0 (by omega)).1 0 (by omega)
      obtain ⟨b, o, sp⟩ := a
      have hs : sp = none := by
        have hc' : W.cell? ((⟨b, o, sp⟩ : Addr).add 0) = some (.int .i64 (f 0).c) := hc
        simpa [Addr.add] using World.cell?_spot hc'
      subst hs
      refine ⟨b, o, rfl, fun i y hi => ?_⟩
      have hil : i < len := by
        have := (List.getElem?_eq_some_iff.1 hi).1
        simpa using this
      have hy : f i = y := by simpa [hil] using hi
      subst hy
      have key := (hf i (by omega)).1
      have k0 := key 0 (by omega); have k1 := key 1 (by omega); have k2 := key 2 (by omega)
      have k3 := key 3 (by omega); have k4 := key 4 (by omega); have k5 := key 5 (by omega); have k6 := key 6 (by omega)
      simp only [Go.Proofs.YtdogecaonlmalaaGreat.add_none, koCs, Nat.add_zero, List.getElem?_cons_zero, List.getElem?_cons_succ, ← Nat.add_assoc] at k0 k1 k2 k3 k4 k5 k6
      exact ⟨k0, k1, k2, k3, k4, k5, k6⟩
    · obtain ⟨i, hi, rfl⟩ := List.mem_map.1 hy
      exact (hf i (by have := List.mem_range.1 hi; omega)).2
end Go.Proofs.YtdogecaonlmalaaGreat
