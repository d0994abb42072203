/- Rows of keys of state that are the call's own; the library's sort of them. -/
import Derived.Test.YtdogecaonlmalaaGreatKeyO
import Derived.Test.YtdogecaonlmalaaGreatKey0
import Derived.Shelf.SlSortCmp.NoneTotal
import Derived.Sort.OwnSorted
namespace Go.Proofs.YtdogecaonlmalaaGreat
open Go.RowKit Go.Sort Go.Shelf

theorem infoK : (Tryz.prog.info? 28).map (fun i => (i.zero, i.size, i.bytes)) = some (some (.agg #[.int .i64 0, .int .i64 0, .int .i64 0]), 3, 24) := by kernel_rfl

/-- A row of keys that is the call's own. -/
def OwnK (w : World) (B : Nat) (v : Value) (ks : List K3) : Prop := w.ownsRow B 28 3 v ks.length (ks.flatMap k3C)

theorem OwnK.nil (w : World) (B : Nat) : OwnK w B (.slice none 0 0) [] := World.ownsRow_nil _ _ _ _
theorem flatC3_len (ks : List K3) : (ks.flatMap k3C).length = ks.length * 3 := by
  induction ks with
  | nil => rfl
  | cons m ms ih => rw [List.flatMap_cons, List.length_append, ih, List.length_cons]; simp [k3C]; omega
theorem flatC3_at [Inhabited K3] (ks : List K3) (t : Nat) (h : t < ks.length * 3) : (ks.flatMap k3C)[t]? = some ((k3C ks[t / 3]!)[t % 3]!) := by
  induction ks generalizing t with
  | nil => simp at h
  | cons x ks ih =>
    rw [List.flatMap_cons]
    by_cases hlt : t < 3
    · rw [List.getElem?_append_left (by simp [k3C]; omega)]
      have h0 : t / 3 = 0 := by omega
      have h1 : t % 3 = t := by omega
      rw [h0, h1]
      have : t = 0 ∨ t = 1 ∨ t = 2 := by omega
      rcases this with rfl | rfl | rfl <;> simp [k3C]
    · rw [List.getElem?_append_right (by simp [k3C]; omega)]
      have e : t - (k3C x).length = t - 3 := rfl
      rw [e, ih (t - 3) (by rw [List.length_cons] at h; omega)]
      have h0 : t / 3 = (t - 3) / 3 + 1 := by omega
      have h1 : t % 3 = (t - 3) % 3 := by omega
      rw [h0, h1]
      simp

theorem flatK_eq [Inhabited K3] (ks : List K3) : flatK k3C 3 ks.toArray = (ks.flatMap k3C).toArray := by
  have hsz : (flatK k3C 3 ks.toArray).size = ks.length * 3 := by rw [size_flatK]; simp
  apply Array.ext
  · rw [hsz, List.size_toArray, flatC3_len]
  · intro t h1 h2
    have ht : t < ks.length * 3 := by rw [← hsz]; exact h1
    have e := flatC3_at ks t ht
    have e2 := get_flatK k3C 3 ks.toArray t (by simpa using ht)
    rw [getElem!_pos (flatK k3C 3 ks.toArray) t h1] at e2
    have e3 : ((ks.flatMap k3C).toArray)[t]? = some ((k3C ks[t / 3]!)[t % 3]!) := by rw [List.getElem?_toArray]; exact e
    rw [Array.getElem?_eq_getElem h2] at e3
    rw [e2, Option.some.inj e3]
    simp

/-- The keys of a row, in order. -/
def sortK (ks : List K3) : List K3 := ks.mergeSort fun x y => !k3Less y x

theorem sortK_len (ks : List K3) : (sortK ks).length = ks.length := by simp [sortK]

theorem putCells_take (cur F : Array Value) (h : F.size ≤ cur.size) : (putCells id 0 F cur).toList.take F.size = F.toList := by
  apply List.ext_getElem?
  intro j
  by_cases hj : j < F.size
  · rw [List.getElem?_take_of_lt hj, Array.getElem?_toList]
    simp [putCells, hj, show j < cur.size by omega]
  · rw [List.getElem?_take_eq_none (by omega), List.getElem?_eq_none (by simp; omega)]

theorem aggK (w : World) : (isAgg 28).run Tryz.prog w = .ok true w := Tryz.isAgg28 w
theorem sizeK (w : World) : (Go.sizeOf 28).run Tryz.prog w = .ok 3 w := Tryz.sizeOf28 w

/-- slices.SortFunc of keys by package keys' order. -/
theorem sortFuncK (B : Nat) (v : Value) (ks : List K3) (w : World) (h : OwnK w B v ks) (hsz : ks.length ≤ 1000000) :
    Calls Tryz.prog 77 #[v, .func (.func 49) #[] #[]] w fun e w' => e = .returned (.tuple #[]) ∧ OwnK w' B v (sortK ks) ∧ w.grownBy w' v.ownBlock := by
  have : Inhabited K3 := ⟨⟨(0, 0, 0), by decide, by decide, by decide⟩⟩
  obtain ⟨h1, h2⟩ := h
  rcases h2 with ⟨rfl, h0⟩ | ⟨g, cap, cur, rfl, hg, hh, hn, hm, hs, ht⟩
  · have hn : ks = [] := List.length_eq_zero_iff.1 h0
    subst hn
    refine (AnyF.slices_SortFunc_none key0Lays none 0 _ w).mono ?_
    rintro e w' ⟨rfl, rfl⟩
    exact ⟨rfl, by simpa [sortK] using OwnK.nil _ _, below_grown (Below.refl _ _) _⟩
  · have hfl := flatK_eq ks
    have hH : HoldsK k3C 3 w g 0 ks.toArray := by
      unfold HoldsK
      rw [hfl]
      intro j hj
      have hj' : j < ks.length * 3 := by rw [List.size_toArray, flatC3_len] at hj; exact hj
      refine ⟨?_, by simp [World.frozen?, hh]⟩
      have e : (cur.toList.take (ks.length * 3))[j]? = (ks.flatMap k3C)[j]? := by rw [ht]
      rw [List.getElem?_take_of_lt hj'] at e
      have e2 : (ks.flatMap k3C)[j]? = some ((ks.flatMap k3C).toArray[j]!) := by
        have hlt : j < (ks.flatMap k3C).length := by rw [flatC3_len]; exact hj'
        rw [getElem!_pos (ks.flatMap k3C).toArray j hj, List.getElem?_eq_getElem hlt]
        rfl
      rw [e2] at e
      simp only [World.cell?, hh, Nat.zero_add]
      simp only [Option.isSome_none, Bool.false_eq_true, if_false]
      rw [← Array.getElem?_toList, e]
      rfl
    have hc := AnyQ.slices_SortFunc_total key0Lays 3 aggK sizeK k3C (fun _ => rfl) (fun x v hv => by simp [k3C] at hv; rcases hv with rfl | rfl | rfl <;> rfl) k3Ord k3_swo 49 #[] g 0 cap ks.toArray w (enters_of Tryz.func49 (by kernel_rfl) rfl) (k3_cmp g 0 _ w) hH (lt_of_heap hh) (by simp; omega) (fun x y hx hy => by rw [k3Lt] at hx hy; exact k3_total x y hx hy)
    have hl : ks.toArray.size = ks.length := by simp
    rw [hl] at hc
    refine hc.mono ?_
    rintro e w' ⟨rfl, n, os, rfl⟩
    have es : (ks.toArray.toList.mergeSort fun x y => !(ltOf k3Ord) y x) = sortK ks := by
      simp only [sortK]
      congr 1
      funext x y
      rw [k3Lt]
    rw [es]
    refine ⟨rfl, ?_, ?_⟩
    · have hcs : (flatK k3C 3 (sortK ks).toArray).size ≤ cur.size := by simp [sortK_len]; omega
      have hbl : (sortWorldK k3C 3 w g 0 n (sortK ks).toArray os).heap[g]? = some (.cells (putCells id 0 (flatK k3C 3 (sortK ks).toArray) cur) 28 (0, 0)) := by
        unfold sortWorldK putRowK
        rw [heap_grow_old _ _ (by simpa using lt_of_heap hh)]
        simp [putRow, mapBlock, Sort.ahead, Array.getElem?_modify, hh, onCells]
      unfold OwnK
      rw [sortK_len]
      refine ⟨by rw [flatC3_len, sortK_len], Or.inr ⟨g, cap, _, rfl, hg, hbl, hn, hm, by simp [putCells, hs], ?_⟩⟩
      have := putCells_take cur _ hcs
      rw [size_flatK] at this
      simp only [List.size_toArray, sortK_len] at this
      rw [this, flatK_eq]
    · refine ⟨rfl, rfl, rfl, by simp [sortWorldK, putRowK], fun k hk hne => ?_⟩
      unfold sortWorldK putRowK
      rw [heap_grow_old _ _ (by simpa using hk)]
      have : g ≠ k := fun e => hne (by rw [e]; rfl)
      simp [putRow, mapBlock, Sort.ahead, Array.getElem?_modify, this]
end Go.Proofs.YtdogecaonlmalaaGreat
