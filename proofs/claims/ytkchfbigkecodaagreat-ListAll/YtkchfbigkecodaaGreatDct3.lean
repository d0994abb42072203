/- Rows of fields: cells laid into them; append. -/
import Derived.Test.YtkchfbigkecodaaGreatDct2
import Derived.Laws.IdiomCopy
namespace Go.Proofs.YtkchfbigkecodaaGreat
open Go.RowKit Go.MapKept Go.ChangeMaps

theorem setCell_block {w : World} {b o : Nat} {v : Value} {cur : Array Value} {e : TypeId} {fr : Nat × Nat} (h : w.heap[b]? = some (.cells cur e fr)) : ∃ cur', (w.setCell ⟨b, o, none⟩ v).heap[b]? = some (.cells cur' e fr) ∧ cur'.size = cur.size := by
  obtain ⟨hlt, he⟩ := Array.getElem?_eq_some_iff.1 h
  refine ⟨cur.setIfInBounds o v, ?_, by simp⟩
  simp [World.setCell, Array.getElem_modify, hlt, he]
theorem setCells_block {b : Nat} {e : TypeId} {fr : Nat × Nat} (vs : List Value) : ∀ (o : Nat) (w : World) (cur : Array Value), w.heap[b]? = some (.cells cur e fr) → ∃ cur', (w.setCells b o vs).heap[b]? = some (.cells cur' e fr) ∧ cur'.size = cur.size := by
  induction vs with
  | nil => intro o w cur h; exact ⟨cur, h, rfl⟩
  | cons v vs ih =>
    intro o w cur h
    obtain ⟨c1, h1, h2⟩ := setCell_block (o := o) (v := v) h
    obtain ⟨c2, h3, h4⟩ := ih (o + 1) (w.setCell ⟨b, o, none⟩ v) c1 h1
    exact ⟨c2, h3, h4.trans h2⟩
theorem setCells_grown (b : Nat) (vs : List Value) : ∀ (o : Nat) (w : World), w.grownBy (w.setCells b o vs) (some b) := by
  induction vs with
  | nil => intro o w; exact ⟨rfl, rfl, rfl, Nat.le_refl _, fun _ _ _ => rfl⟩
  | cons v vs ih =>
    intro o w
    have h1 := grown_setCell w b o v
    have h2 := ih (o + 1) (w.setCell ⟨b, o, none⟩ v)
    exact ⟨h2.os.trans h1.os, h2.tape.trans h1.tape, h2.output.trans h1.output, Nat.le_trans h1.size h2.size, fun k hk hn => (h2.block k (Nat.lt_of_lt_of_le hk h1.size) hn).trans (h1.block k hk hn)⟩

/-- A row, told by its cells. -/
theorem row_of_cells {w : World} {B g cap n sz : Nat} {e : TypeId} {cur : Array Value} {xs : List Value} (hB : B ≤ g) (hh : w.heap[g]? = some (.cells cur e (0, 0))) (hs : cur.size = cap * sz) (hn : n ≤ cap) (hm : cap ≤ maxLen) (hl : xs.length = n * sz)
    (hc : ∀ j u, xs[j]? = some u → w.cell? ⟨g, j, none⟩ = some u) : w.ownsRow B e sz (.slice (some ⟨g, 0, none⟩) n cap) n xs := by
  refine ⟨hl, Or.inr ⟨g, cap, cur, rfl, hB, hh, hn, hm, hs, ?_⟩⟩
  have hns : n * sz ≤ cap * sz := Nat.mul_le_mul_right _ hn
  apply List.ext_getElem?
  intro j
  by_cases hj : j < n * sz
  · rw [List.getElem?_take_of_lt hj, Array.getElem?_toList]
    have hx : xs[j]? = some xs[j] := List.getElem?_eq_getElem (by omega)
    have := hc j _ hx
    rw [hx]
    simpa [World.cell?, hh] using this
  · rw [List.getElem?_take_eq_none (by omega), List.getElem?_eq_none (by omega)]

theorem infoF : (Tryz.prog.info? 56).map (fun i => (i.zero, i.size, i.bytes)) = some (some (.agg #[.int .i64 0, .int .i64 0]), 2, 16) := by kernel_rfl

theorem fdC_one (z : List (Int × Int)) : ∀ u ∈ z.flatMap fdC, u.oneCell' = true := by
  intro u hu
  obtain ⟨p, _, hp⟩ := List.mem_flatMap.1 hu
  simp [fdC] at hp
  rcases hp with rfl | rfl <;> rfl
theorem flatF_len (z : List (Int × Int)) : (z.flatMap fdC).length = z.length * 2 := by
  induction z with
  | nil => rfl
  | cons p z ih => rw [List.flatMap_cons, List.length_append, ih, List.length_cons]; simp [fdC]; omega

/-- append(own, fields...). -/
theorem run_appF (B : Nat) (w : World) (v : Value) (l : List (Int × Int)) (hown : w.ownsRow B 56 2 v l.length (l.flatMap fdC)) (ad : Addr) (m c : Nat) (news : List (Int × Int)) (hm : news.length = m)
    (hn : ∀ j u, (news.flatMap fdC)[j]? = some u → w.cell? (ad.add j) = some u) (hsz : l.length + m ≤ 1000000) (hB : B ≤ w.heap.size) :
    ∃ v' w', (∀ ty, (Builtin.append_ #[53, 53] ty #[v, .slice (some ad) m c]).run Tryz.prog w = .ok v' w') ∧ w'.ownsRow B 56 2 v' (l ++ news).length ((l ++ news).flatMap fdC) ∧ w.grownBy w' v.ownBlock ∧ (v'.ownBlock = v.ownBlock ∨ v'.ownBlock = some w.heap.size) := by
  obtain ⟨i0, hi, hz0, hz1, hz2⟩ := info_parts infoF
  have key := fun ty => run_append_own_at (P := Tryz.prog) w B 53 ty 56 i0 _ 2 16 Tryz.underlying53 hi hz0 hz1 hz2 rfl (by decide) v l.length (l.flatMap fdC) hown ad m c (news.flatMap fdC) (by rw [flatF_len, hm]) hn (fdC_one news) (by simp only [maxLen]; omega) (by omega) hB
  obtain ⟨v', w', hrun, h2, h3, _, h5⟩ := key 0
  refine ⟨v', w', fun ty => hrun, ?_, h3, h5⟩
  rw [List.flatMap_append, List.length_append, hm]
  exact h2

/-- A literal of one field. -/
def fdO (a : Int × Int) : Obj := .cells #[.int .i64 a.1, .int .i64 a.2] 56
theorem fdO_cells {w : World} {q : Nat} {a : Int × Int} (h : w.heap[q]? = some (fdO a)) : ∀ j u, ([a].flatMap fdC)[j]? = some u → w.cell? ((⟨q, 0, none⟩ : Addr).add j) = some u := by
  intro j u hj
  rw [add_none, Nat.zero_add]
  simp only [List.flatMap_cons, List.flatMap_nil, List.append_nil, fdC] at hj
  match j, hj with
  | 0, hj => simp at hj; subst hj; simp [World.cell?, h, fdO]
  | 1, hj => simp at hj; subst hj; simp [World.cell?, h, fdO]
  | j + 2, hj => simp at hj
end Go.Proofs.YtkchfbigkecodaaGreat
