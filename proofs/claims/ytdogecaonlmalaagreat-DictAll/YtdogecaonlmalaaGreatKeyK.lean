/- Maps whose keys are keys of state: three numbers. -/
import Derived.Test.YtdogecaonlmalaaGreatMapG
import Derived.DeepKeys4
namespace Go.Proofs.YtdogecaonlmalaaGreat
open Go.RowKit Go.MapKept Go.ChangeMaps

/-- A key of state: three numbers of 64 bits. -/
abbrev K3 := {p : Int × Int × Int // (Lit.int .i64 p.1).wf = true ∧ (Lit.int .i64 p.2.1).wf = true ∧ (Lit.int .i64 p.2.2).wf = true}
abbrev K3.g (a : K3) : Int := a.1.1
abbrev K3.n (a : K3) : Int := a.1.2.1
abbrev K3.i (a : K3) : Int := a.1.2.2
theorem K3.hg (a : K3) : (Lit.int .i64 a.g).wf = true := a.2.1
theorem K3.hn (a : K3) : (Lit.int .i64 a.n).wf = true := a.2.2.1
theorem K3.hi (a : K3) : (Lit.int .i64 a.i).wf = true := a.2.2.2

theorem K3.ext' {a b : K3} (h1 : a.g = b.g) (h2 : a.n = b.n) (h3 : a.i = b.i) : a = b := Subtype.ext (Prod.ext h1 (Prod.ext h2 h3))

def k3C (a : K3) : List Value := [.int .i64 a.g, .int .i64 a.n, .int .i64 a.i]
def k3E (a : K3) : Value := .agg #[.int .i64 a.g, .int .i64 a.n, .int .i64 a.i]
def k3O (x : K3) : Obj := .cells #[.int .i64 x.g, .int .i64 x.n, .int .i64 x.i] 28

theorem laidK : laidOutB Tryz.prog = true := by kernel_rfl
theorem rowK : (28 : Nat) < Tryz.prog.types.size := of_decide_eq_true (by kernel_rfl)
theorem cellsK3 : Tryz.prog.cellsOf 28 = 3 := by kernel_rfl
theorem cellsInt : Tryz.prog.cellsOf 3 = 1 := by kernel_rfl
theorem deepK : Tryz.prog.keyType 28 = true := by kernel_rfl
theorem wideK : (match Tryz.prog.underlying 28 with | some (.array _ _) | some (.struct _) => true | _ => false) = true := by rw [Tryz.underlying28]
set_option maxRecDepth 100000 in
theorem lawK : WideMaps.KeyLaw Tryz.prog 28 := deep_law_laid laidK (m := 2) (by decide) rowK (by kernel_rfl) wideK
theorem formedK (x y z : Value) : (Value.agg #[x, y, z]).formed Tryz.prog 28 = true := by simp [Value.formed, Tryz.underlying28, cellsK3]

set_option maxRecDepth 100000 in
theorem keyOf_k3 (a : K3) : ∃ l, keyOf Tryz.prog 28 (k3E a) = some l := by
  have hf := formedK (.int .i64 a.g) (.int .i64 a.n) (.int .i64 a.i)
  have hl : ∀ d, ∃ ls, Tryz.prog.keyLits (d + 2) 28 (k3C a) = some ls := by
    intro d
    refine ⟨[.int .i64 a.g, .int .i64 a.n, .int .i64 a.i], ?_⟩
    have h1 := a.hg
    have h2 := a.hn
    have h3 := a.hi
    simp [Program.keyLits, Tryz.underlying28, Tryz.underlying3, cellsK3, cellsInt, k3C, h1, h2, h3]
  obtain ⟨n, hn⟩ : ∃ n, Tryz.prog.types.size + 1 = n + 2 := ⟨Tryz.prog.types.size - 1, by have := rowK; omega⟩
  obtain ⟨ls, hls⟩ := hl n
  refine ⟨.string (keyBytes ls), ?_⟩
  unfold keyOf
  rw [Tryz.underlying28]
  simp only [k3E, deepK, hf, Bool.and_self, if_true]
  rw [hn]
  have hc : (Value.agg #[Value.int .i64 a.g, .int .i64 a.n, .int .i64 a.i]).cells.toList = k3C a := rfl
  rw [hc, hls]
  rfl

theorem k3_inj (a b : K3) (h : k3E a = k3E b) : a = b := by
  simp [k3E] at h
  exact K3.ext' h.1 h.2.1 h.2.2

theorem idx_of {l : List (Ent K3)} {a : K3} (hn : (l.map Ent.k).Nodup) {j : Nat} {x : Ent K3} (hj : l[j]? = some x) (hx : x.k = a) (i : Nat) : idxE a l i = some (i + j, x.v) := by
  induction l generalizing j i with
  | nil => simp at hj
  | cons y l ih =>
    rw [List.map_cons, List.nodup_cons] at hn
    cases j with
    | zero =>
      simp at hj; subst hj
      rw [idxE, if_pos hx]; rfl
    | succ j =>
      have hj' : l[j]? = some x := by simpa using hj
      have hne : ¬ y.k = a := fun e => hn.1 (by rw [e, ← hx]; exact List.mem_map.2 ⟨x, List.mem_of_getElem? hj', rfl⟩)
      rw [idxE, if_neg hne, ih hn.2 hj' (i + 1)]
      congr 2; omega

theorem k3Keyd : Keyd k3E 28 where
  inj := k3_inj
  chk := fun e a w => by obtain ⟨l, hl⟩ := keyOf_k3 a; exact lawK.check w e hl
  fnd := fun l a w hn => by
    obtain ⟨lx, hx⟩ := keyOf_k3 a
    rcases lawK.find w hx (l.map (Ent.e k3E)) (fun e he => by
      obtain ⟨y, _, rfl⟩ := List.mem_map.1 he
      exact keyOf_k3 y.k) with ⟨h1, h2⟩ | ⟨j, e, h1, h2, h3⟩
    · rw [h1, idxE_none]
      intro hm
      obtain ⟨y, hy, e⟩ := List.mem_map.1 hm
      exact h2 _ (List.mem_map.2 ⟨y, hy, rfl⟩) (by show k3E y.k = _; rw [e])
    · rw [List.getElem?_map] at h2
      cases hl : l[j]? with
      | none => rw [hl] at h2; cases h2
      | some y =>
        rw [hl] at h2
        simp at h2
        subst h2
        rw [h1, idx_of hn hl (k3_inj _ _ h3) 0, Nat.zero_add]
        rfl
  stays := fun a w => by obtain ⟨l, hl⟩ := keyOf_k3 a; exact lawK.stays w hl
end Go.Proofs.YtdogecaonlmalaaGreat
