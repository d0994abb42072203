/- What is to be done to a disk, as it comes in; texts cut short. -/
import Derived.Test.YtjdbkmjhjcmoaaaDskI
import Derived.ProofKit
import Derived.OpenShut
import Derived.Deep.Slices
import Derived.Lib.SmallJoins
namespace Go.Proofs.Ytjdbkmjhjcmoaaa
open Go.ChangeShapes Go.WideShapes Go.RowKit

/-- One deed: its kind, a name, bytes, two numbers. -/
structure Dop where
  k : Int
  s : ByteArray
  a : Option Addr
  n : Nat
  c : Nat
  z : List Int
  p : Int
  q : Int

def dCs (d : Dop) : List Value := [.int .i64 d.k, .string d.s, .slice d.a d.n d.c, .int .i64 d.p, .int .i64 d.q]
def wfD (w : World) (d : Dop) : Prop := d.s.size ≤ maxLen ∧ Bs w d.a d.n d.c d.z

def Ds (w : World) (pa : Option Addr) (m : Nat) (ds : List Dop) : Prop :=
  ds.length = m ∧ (0 < m → ∃ b o, pa = some ⟨b, o, none⟩ ∧ ∀ i d, ds[i]? = some d →
    w.cell? ⟨b, o + i * 5, none⟩ = some (.int .i64 d.k) ∧ w.cell? ⟨b, o + i * 5 + 1, none⟩ = some (.string d.s) ∧ w.cell? ⟨b, o + i * 5 + 2, none⟩ = some (.slice d.a d.n d.c))

theorem Ds.later {w w' : World} {pa : Option Addr} {m : Nat} {ds : List Dop} (h : Ds w pa m ds) (hb : Below w.heap.size w w') : Ds w' pa m ds := by
  refine ⟨h.1, fun h0 => ?_⟩
  obtain ⟨b, o, rfl, hc⟩ := h.2 h0
  refine ⟨b, o, rfl, fun i d hi => ?_⟩
  obtain ⟨k0, k1, k2⟩ := hc i d hi
  exact ⟨(hb.cell (lt_of_cell k0)).trans k0, (hb.cell (lt_of_cell k1)).trans k1, (hb.cell (lt_of_cell k2)).trans k2⟩

theorem cellsD : Try.prog.cellsOf 44 = 5 := by kernel_rfl
theorem cellsI1 : Try.prog.cellsOf 3 = 1 := by kernel_rfl
theorem cellsS1 : Try.prog.cellsOf 9 = 1 := by kernel_rfl
theorem cellsB1 : Try.prog.cellsOf 24 = 1 := by kernel_rfl

theorem trod_struct5 {H : Type} {enc : TypeId × Value → H} {P : Program} {w : World} {base : Nat} {spare : Nat → Bool} {held : Bool} {t : TypeId} {f0 f1 f2 f3 f4 : Field} {fuel : Nat} {cs : List Value} {x : DataW H × List MemPlace} (ht : P.underlying t = some (.struct #[f0, f1, f2, f3, f4])) (h : DataW.trod enc P w base spare held fuel t cs = some x) :
    ∃ y0 y1 y2 y3 y4 n, cs.length = P.cellsOf t ∧ DataW.trod enc P w base spare held n f0.type ((cs.drop f0.offset).take (P.cellsOf f0.type)) = some y0 ∧
      DataW.trod enc P w base spare held n f1.type ((cs.drop f1.offset).take (P.cellsOf f1.type)) = some y1 ∧ DataW.trod enc P w base spare held n f2.type ((cs.drop f2.offset).take (P.cellsOf f2.type)) = some y2 ∧
      DataW.trod enc P w base spare held n f3.type ((cs.drop f3.offset).take (P.cellsOf f3.type)) = some y3 ∧ DataW.trod enc P w base spare held n f4.type ((cs.drop f4.offset).take (P.cellsOf f4.type)) = some y4 := by
  obtain ⟨xs, n, _, rfl, hl, hlen, hf⟩ := DataW.trod_struct ht h
  match xs, hlen with
  | [y0, y1, y2, y3, y4], _ => exact ⟨y0, y1, y2, y3, y4, n, hl, by simpa using hf 0 f0 rfl, by simpa using hf 1 f1 rfl, by simpa using hf 2 f2 rfl, by simpa using hf 3 f3 rfl, by simpa using hf 4 f4 rfl⟩

set_option maxRecDepth 100000 in
theorem open_dop {H : Type} {enc : TypeId × Value → H} {w : World} {base fuel : Nat} {held : Bool} {cs : List Value} {x : DataW H × List MemPlace}
    (h : DataW.trod enc Try.prog w base (fun _ => true) held fuel 44 cs = some x) : ∃ d : Dop, cs = dCs d ∧ wfD w d := by
  obtain ⟨y0, y1, y2, y3, y4, n, hl, h0, h1, h2, h3, h4⟩ := trod_struct5 Try.underlying44 h
  rw [cellsD] at hl
  match cs, hl with
  | [v0, v1, v2, v3, v4], _ =>
    simp only [cellsI1, cellsS1, cellsB1] at h0 h1 h2 h3 h4
    have h0' : DataW.trod enc Try.prog w base (fun _ => true) held n 3 [v0] = some y0 := h0
    have h1' : DataW.trod enc Try.prog w base (fun _ => true) held n 9 [v1] = some y1 := h1
    have h2' : DataW.trod enc Try.prog w base (fun _ => true) held n 24 [v2] = some y2 := h2
    have h3' : DataW.trod enc Try.prog w base (fun _ => true) held n 3 [v3] = some y3 := h3
    have h4' : DataW.trod enc Try.prog w base (fun _ => true) held n 3 [v4] = some y4 := h4
    obtain ⟨k, ek, _, _⟩ := DataW.trod_int Try.underlying3 h0'
    obtain ⟨s, es, _, ws⟩ := DataW.trod_string Try.underlying9 h1'
    obtain ⟨p, ep, _, _⟩ := DataW.trod_int Try.underlying3 h3'
    obtain ⟨q, eq, _, _⟩ := DataW.trod_int Try.underlying3 h4'
    simp only [List.cons.injEq, and_true] at ek es ep eq
    subst ek; subst es; subst ep; subst eq
    rcases open_ints Try.underlying24 Try.underlying5 (by kernel_rfl) h2' with ⟨hcs, _⟩ | ⟨x, l, c, zs, hcs, _, hl, hm, hz, _, hcell, hwz⟩
    · simp only [List.cons.injEq, and_true] at hcs
      subst hcs
      exact ⟨⟨k, s, none, 0, 0, [], p, q⟩, rfl, ws, Bs.nil w⟩
    · simp only [List.cons.injEq, and_true] at hcs
      subst hcs
      exact ⟨⟨k, s, some x, l, c, _, p, q⟩, rfl, ws, (row_some hl hm (by simpa using hz) hcell hwz).bs⟩

theorem open_dops {H : Type} {enc : TypeId × Value → H} {W : World} {fuel : Nat} {held : Bool} {cs : List Value} {x : DataW H × List MemPlace}
    (h : DataW.trod enc Try.prog W 0 (fun _ => true) held fuel 40 cs = some x) :
    cs = [.slice none 0 0] ∨ ∃ (a : Addr) (len cap : Nat) (ds : List Dop), cs = [.slice (some a) len cap] ∧ len ≤ cap ∧ cap ≤ maxLen ∧ Ds W (some a) len ds ∧ ∀ d ∈ ds, wfD W d := by
  rcases Deep.open_slice Try.underlying40 h with ⟨h0, _⟩ | ⟨a, len, cap, m, n, D, Pl, rfl, _, hl, hm, hmm, _, hx⟩
  · exact Or.inl h0
  · right
    simp only [if_true] at hmm
    subst hmm
    rw [cellsD] at hx
    have each : ∀ i, i < m → ∃ y : Dop, (∀ j, j < 5 → W.cell? (a.add (i * 5 + j)) = (dCs y)[j]?) ∧ wfD W y := by
      intro i hi
      obtain ⟨cs', h1, h2⟩ := hx i hi
      obtain ⟨y, rfl, wy⟩ := open_dop h2
      obtain ⟨_, _, hcell⟩ := World.cells?_some h1
      refine ⟨y, fun j hj => ?_, wy⟩
      rw [← hcell j hj, Deep.add_add]
    haveI : Inhabited Dop := ⟨⟨0, ByteArray.empty, none, 0, 0, [], 0, 0⟩⟩
    obtain ⟨f, hf⟩ := Deep.choose_lt each
    refine ⟨a, len, m, (List.range len).map f, rfl, hl, hm, ⟨by simp, fun h0 => ?_⟩, fun y hy => ?_⟩
    · have hc := (hf 0 (by omega)).1 0 (by omega)
      obtain ⟨b, o, sp⟩ := a
      have hs : sp = none := by
        have hc' : W.cell? ((⟨b, o, sp⟩ : Addr).add 0) = some (.int .i64 (f 0).k) := hc
        simpa [Addr.add] using World.cell?_spot hc'
      subst hs
      refine ⟨b, o, rfl, fun i y hi => ?_⟩
      have hil : i < len := by
        have := (List.getElem?_eq_some_iff.1 hi).1
        simpa using this
      have hy : f i = y := by simpa [hil] using hi
      subst hy
      have key := (hf i (by omega)).1
      have k0 := key 0 (by omega); have k1 := key 1 (by omega); have k2 := key 2 (by omega)
      simp only [Go.Proofs.Ytjdbkmjhjcmoaaa.add_none, dCs, Nat.add_zero, List.getElem?_cons_zero, List.getElem?_cons_succ, ← Nat.add_assoc] at k0 k1 k2
      exact ⟨k0, k1, k2⟩
    · obtain ⟨i, hi, rfl⟩ := List.mem_map.1 hy
      exact (hf i (by have := List.mem_range.1 hi; omega)).2

set_option maxRecDepth 100000 in
theorem textD (s : ByteArray) (w : World) (_hs : s.size ≤ 9223372036854775807) :
    Calls Try.prog 19 #[.string s, .int .i64 40] w fun e w' => ∃ t, e = .returned (.string t) ∧ w' = w ∧ t.size ≤ 40 := by
  by_cases hle : s.size ≤ 40
  · go_enter Try.func19, Try.ntmps19
    go_wp2
    go_ret
    exact ⟨_, rfl, rfl, by simp; omega⟩
  · have hlt : 40 < s.size := by omega
    go_enter Try.func19, Try.ntmps19
    go_wp2
    go_ret
    exact ⟨_, rfl, rfl, by simp; omega⟩

theorem str_size (l : List Int) : (strOfNums l).size = l.length := by simp [strOfNums, ByteArray.size]

/-- What has been put at a name, be it there or not. -/
theorem Mp.upd {K : Type} [DecidableEq K] {E : K → Value} {kt et T : TypeId} (kd : Keyd E kt) (hT : Try.prog.underlying T = some (.map kt et)) {w : World} {r : Nat} {l : List (Ent K)} {c : Nat} (h : Mp E w r l c) (a : K) (v : Value) :
    ∃ w' l' c', (Instr.mapUpdate T (.map (some r)) (E a) v).run Try.prog w = .ok () w' ∧ Mp E w' r l' c' ∧ w.grownBy w' (some r) ∧ ∀ x ∈ l', (x.k = a ∧ x.v = v) ∨ x ∈ l := by
  by_cases ha : a ∈ l.map Ent.k
  · obtain ⟨w', h1, h2, h3⟩ := h.set kd hT a v ha
    refine ⟨w', _, _, h1, h2, h3, fun x hx => ?_⟩
    unfold setE at hx
    obtain ⟨y, hy, rfl⟩ := List.mem_map.1 hx
    by_cases e : y.k = a
    · rw [if_pos e]; exact Or.inl ⟨e, rfl⟩
    · rw [if_neg e]; exact Or.inr hy
  · obtain ⟨w', h1, h2, h3⟩ := h.put kd hT a v ha
    refine ⟨w', _, _, h1, h2, h3, fun x hx => ?_⟩
    rcases List.mem_append.1 hx with hx | hx
    · exact Or.inr hx
    · simp at hx; subst hx; exact Or.inl ⟨rfl, rfl⟩
end Go.Proofs.Ytjdbkmjhjcmoaaa
