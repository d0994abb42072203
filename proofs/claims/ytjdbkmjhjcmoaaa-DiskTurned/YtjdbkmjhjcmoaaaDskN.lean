/- The names of files, in order. -/
import Derived.Test.YtjdbkmjhjcmoaaaDskC
import Derived.Test.YtjdbkmjhjcmoaaaKeys0
namespace Go.Proofs.Ytjdbkmjhjcmoaaa
open Go.RowKit Go.MapKept Go.ChangeMaps Go.Maps Go.Sort

/-- Names are short, and not many. -/
structure namF (F : Files) (N : Nat) : Prop where
  short : ∀ s z, F s = some z → s.size ≤ 40
  few : ∀ ks : List ByteArray, ks.Nodup → (∀ s ∈ ks, F s ≠ none) → ks.length ≤ N

theorem namF.mono {F : Files} {N N' : Nat} (h : namF F N) (hN : N ≤ N') : namF F N' := ⟨h.short, fun ks h1 h2 => Nat.le_trans (h.few ks h1 h2) hN⟩
theorem namF.none : namF (fun _ => none) 0 := by
  refine ⟨fun s z h => (by cases h), fun ks _ h => ?_⟩
  match ks, h with
  | [], _ => exact Nat.le_refl _
  | a :: ks, h => exact absurd rfl (h a (List.mem_cons_self ..))
theorem namF.add {F : Files} {N : Nat} (h : namF F N) (s : ByteArray) (z : List Int) (hs : s.size ≤ 40) : namF (addF F s z) (N + 1) := by
  refine ⟨fun t x hx => ?_, fun ks h1 h2 => ?_⟩
  · unfold addF at hx
    by_cases e : t = s
    · rw [e]; exact hs
    · rw [if_neg e] at hx; exact h.short t x hx
  · have h3 := h.few (ks.filter fun t => decide (t ≠ s)) (h1.sublist List.filter_sublist) (fun t ht => by
      obtain ⟨ht1, ht2⟩ := List.mem_filter.1 ht
      have hne : t ≠ s := by simpa using ht2
      have := h2 t ht1
      unfold addF at this
      rwa [if_neg hne] at this)
    have h4 : ks.length ≤ (ks.filter fun t => decide (t ≠ s)).length + 1 := by
      clear h2 h3
      induction ks with
      | nil => simp
      | cons a ks ih =>
        rw [List.nodup_cons] at h1
        by_cases e : a = s
        · have e2 : ks.filter (fun t => decide (t ≠ s)) = ks := by
            rw [List.filter_eq_self]
            intro t ht
            simp only [decide_eq_true_eq]
            intro e'
            exact h1.1 (by rw [e, ← e']; exact ht)
          rw [List.filter_cons, if_neg (by simp [e]), e2]
          simp
        · rw [List.filter_cons, if_pos (by simp [e])]
          have := ih h1.2
          simp only [List.length_cons]
          omega
    omega
theorem namF.redo {F : Files} {N : Nat} (h : namF F N) (cs : List (ByteArray × Nat)) (lo : List Int) (hs : ∀ p ∈ cs, p.1.size ≤ 40) : namF (redoF F cs lo) (N + cs.length) := by
  induction cs generalizing F N lo with
  | nil => exact h.mono (by simp)
  | cons p cs ih =>
    obtain ⟨s, n⟩ := p
    have hp : s.size ≤ 40 := hs _ (List.mem_cons_self ..)
    unfold redoF
    split
    · exact (ih (h.add s _ hp) _ (fun q hq => hs q (List.mem_cons_of_mem _ hq))).mono (by simp; omega)
    · split
      · exact h.mono (by omega)
      · exact (h.add s lo hp).mono (by simp)

theorem Fil.len {w : World} {r : Nat} {l : List (Ent ByteArray)} {c N : Nat} {F : Files} (h : Fil w r l c F) (hN : namF F N) : l.length ≤ N := by
  have := hN.few (l.map Ent.k) h.mp.keys (fun s hs => by
    obtain ⟨x, hx, rfl⟩ := List.mem_map.1 hs
    obtain ⟨z, hz, _⟩ := h.row x hx
    rw [hz]; simp)
  simpa using this
theorem Fil.mem {w : World} {r : Nat} {l : List (Ent ByteArray)} {c : Nat} {F : Files} (h : Fil w r l c F) (s : ByteArray) : s ∈ l.map Ent.k ↔ F s ≠ none := by
  refine ⟨fun hs => ?_, fun hs => ?_⟩
  · obtain ⟨x, hx, rfl⟩ := List.mem_map.1 hs
    obtain ⟨z, hz, _⟩ := h.row x hx
    rw [hz]; simp
  · by_cases e : s ∈ l.map Ent.k
    · exact e
    · exact absurd (h.non s e) hs

/-- The names of F, in order. -/
def NamesOf (F : Files) (ns : List ByteArray) : Prop := ns.Nodup ∧ (∀ s, s ∈ ns ↔ F s ≠ none) ∧ (ns.map fun s => s.data.toList).Pairwise (· ≤ ·)

theorem NamesOf.uniq {F : Files} {ns ms : List ByteArray} (h : NamesOf F ns) (k : NamesOf F ms) : ns = ms := by
  have hp : ns.Perm ms := (List.perm_ext_iff_of_nodup h.1 k.1).2 (fun s => (h.2.1 s).trans (k.2.1 s).symm)
  have e := List.Perm.eq_of_pairwise (le := (· ≤ ·)) (fun a b _ _ h1 h2 => List.le_antisymm h1 h2) h.2.2 k.2.2 (hp.map _)
  have hinj : ∀ a b : ByteArray, a.data.toList = b.data.toList → a = b := by
    intro a b hab
    cases a; cases b
    simp only at hab
    rw [Array.toList_inj.1 hab]
  clear hp h k
  induction ns generalizing ms with
  | nil => cases ms with
    | nil => rfl
    | cons a ms => simp at e
  | cons a ns ih => cases ms with
    | nil => simp at e
    | cons b ms =>
      simp only [List.map_cons, List.cons.injEq] at e
      rw [hinj a b e.1, ih e.2]

theorem sortS_names {w : World} {r : Nat} {l : List (Ent ByteArray)} {c : Nat} {F : Files} (h : Fil w r l c F) : NamesOf F (sortS (l.map Ent.k)) := by
  have hp : ((sortS (l.map Ent.k)).map fun s => s.data.toList).Perm ((l.map Ent.k).map fun s => s.data.toList) := by
    rw [sortS, List.map_map]
    have e : ((fun s : ByteArray => s.data.toList) ∘ fun l : List UInt8 => (⟨l.toArray⟩ : ByteArray)) = id := by funext x; rfl
    rw [e, List.map_id]
    exact List.mergeSort_perm _ _
  have hback : ∀ ns : List ByteArray, (ns.map fun s => s.data.toList).map (fun l : List UInt8 => (⟨l.toArray⟩ : ByteArray)) = ns := by
    intro ns
    rw [List.map_map]
    conv => rhs; rw [← List.map_id ns]
    rfl
  have hp2 : (sortS (l.map Ent.k)).Perm (l.map Ent.k) := by
    have := hp.map (fun l : List UInt8 => (⟨l.toArray⟩ : ByteArray))
    rwa [hback, hback] at this
  refine ⟨hp2.nodup_iff.2 h.mp.keys, fun s => (hp2.mem_iff).trans (h.mem s), ?_⟩
  rw [sortS, List.map_map]
  have e : ((fun s : ByteArray => s.data.toList) ∘ fun l : List UInt8 => (⟨l.toArray⟩ : ByteArray)) = id := by funext x; rfl
  rw [e, List.map_id]
  have := List.pairwise_mergeSort (le := fun (x y : List UInt8) => decide (x ≤ y)) (fun a b c h1 h2 => by simp only [decide_eq_true_eq] at *; exact List.le_trans h1 h2) (fun a b => by simp only [Bool.or_eq_true, decide_eq_true_eq]; exact List.le_total a b) ((l.map Ent.k).map fun s => s.data.toList)
  exact this.imp fun h => by simpa using h

/-- How an element reads: it does not matter. -/
def readAll : Value → Option (DataW Unit × List MemPlace) := fun _ => some (.nil, [])

theorem key_reads (s : ByteArray) (hs : s.size ≤ 40) : keyOf Try.prog 9 (.string s) = some (.string s.data.toList) := by
  have hm : s.size ≤ maxLen := by simp only [maxLen]; omega
  simp [keyOf, Try.underlying9, mapKey]
  exact hm

theorem Fil.owns {w : World} {r : Nat} {l : List (Ent ByteArray)} {c N : Nat} {F : Files} (h : Fil w r l c F) (hN : namF F N) (hN1 : N ≤ 1000) :
    ∃ D, w.ownsMap Try.prog 9 readAll r N D ∧ Maps.size D = l.length ∧ (strKeys D).Perm ((l.map Ent.k).map fun s => s.data.toList) := by
  have hl := h.len hN
  have hsh : ∀ x ∈ l, x.k.size ≤ 40 := fun x hx => by
    obtain ⟨z, hz, _⟩ := h.row x hx
    exact hN.short _ _ hz
  have hrd : ∀ x ∈ l, WideElems.rd Try.prog 9 readAll (x.e strE) = some (.string x.k.data.toList, .nil) := fun x hx => by
    exact WideElems.rd_mk (R := readAll) (yv := (.nil, [])) (key_reads x.k (hsh x hx)) rfl
  refine ⟨_, ⟨_, c, h.mp.heap, ⟨?_, ⟨?_, ?_, ?_⟩, ?_⟩, ?_, rfl⟩, ?_, ?_⟩
  · simp only [maxLen]; simp; omega
  · intro x hx
    rw [List.toList_toArray] at hx
    obtain ⟨y, hy, rfl⟩ := List.mem_map.1 hx
    exact h.mp.born y hy
  · rw [List.toList_toArray, List.map_map]
    exact h.mp.ones
  · rw [List.toList_toArray, List.map_map]
    have e : ((fun x : MapEntry => x.key) ∘ Ent.e strE) = strE ∘ Ent.k := rfl
    rw [e, ← List.map_map]
    exact List.pairwise_map.2 (h.mp.keys.imp (fun hne e => hne (strKeyd.inj _ _ e)))
  · intro x hx
    rw [List.toList_toArray] at hx
    obtain ⟨y, hy, rfl⟩ := List.mem_map.1 hx
    exact ⟨_, hrd y hy⟩
  · simp; exact hl
  · rw [Maps.size_eq, length_sorted]
    simp
  · show List.Perm (List.map _ _) _
    refine ((WideShapes.sorted_perm _).map _).trans ?_
    rw [List.toList_toArray, List.map_map, List.map_map, List.map_map]
    refine List.Perm.of_eq (List.map_congr_left fun x hx => ?_)
    simp only [Function.comp, WideElems.rg_of (hrd x hx), strOf]

theorem keys_call (mb : Option Nat) (W : World) : Calls Try.prog 68 #[.map mb] W fun e w' => e = .returned (.func (.func 81) #[] #[.pointer (some ⟨W.heap.size, 0, none⟩)]) ∧ w' = W.alloc (.cells #[.map mb] 80) :=
  (callsIn_wide (n := 5)).1 (AnyZ.keys_in keysLays Fence.wide 5 trivial rfl mb W)

theorem sorted_call (b N : Nat) (D : DataW Unit) (w : World) (hown : w.ownsMap Try.prog 9 readAll b N D) (hs : Maps.size D ≤ 1000) :
    Calls Try.prog 67 #[.func (.func 81) #[] #[.pointer (some ⟨w.heap.size, 0, none⟩)]] (w.alloc (.cells #[.map (some b)] 80)) fun e w' => ∃ (v : Value) (ss : List (List UInt8)), e = .returned v ∧ ss.Perm (strKeys D) ∧
      w'.ownsRow (w.alloc (.cells #[.map (some b)] 80)).heap.size 9 1 v ss.length ((ss.mergeSort (fun x y => decide (x ≤ y))).map Go.Proofs.encStr) ∧ (v = .slice none 0 0 ↔ ss = []) ∧ Below (w.alloc (.cells #[.map (some b)] 80)).heap.size (w.alloc (.cells #[.map (some b)] 80)) w' := by
  have hbl := hown.lt
  have hseq : SeqGives Fence.wide 2 Try.prog 81 #[.pointer (some ⟨w.heap.size, 0, none⟩)] Go.Proofs.encStr (fun ss => ss.Perm (strKeys D)) (Maps.size D) (w.alloc (.cells #[.map (some b)] 80)) :=
    AnyZ.keys_gives (ρ := keysRen) { keysLays with } Fence.wide _ trivial rfl (by omega) w.heap.size b N D _ (by simp) (by simp) (by
      obtain ⟨es, clock, hb, Ft, hs, hD⟩ := hown
      exact ⟨es, clock, (Below.heap_alloc _ _ b hbl).trans hb, Ft, hs, hD⟩)
  exact (callsIn_wide (n := 5)).1 (AnyZ.sorted_in sortedLays Fence.wide 5 trivial trivial trivial trivial rfl (by omega) (sortsIn _) (enters_of Try.func80 (by kernel_rfl) rfl) 81 #[.pointer (some ⟨w.heap.size, 0, none⟩)] trivial (enters_of Try.func81 (by kernel_rfl) rfl) _ _ (by simp only [maxLen]; omega) (by omega) _ hseq)

theorem sorted_nil (w : World) :
    Calls Try.prog 67 #[.func (.func 81) #[] #[.pointer (some ⟨w.heap.size, 0, none⟩)]] (w.alloc (.cells #[.map none] 80)) fun e w' => ∃ (v : Value) (ss : List (List UInt8)), e = .returned v ∧ ss = [] ∧
      w'.ownsRow (w.alloc (.cells #[.map none] 80)).heap.size 9 1 v ss.length ((ss.mergeSort (fun x y => decide (x ≤ y))).map Go.Proofs.encStr) ∧ (v = .slice none 0 0 ↔ ss = []) ∧ Below (w.alloc (.cells #[.map none] 80)).heap.size (w.alloc (.cells #[.map none] 80)) w' := by
  have hseq : SeqGives Fence.wide 2 Try.prog 81 #[.pointer (some ⟨w.heap.size, 0, none⟩)] Go.Proofs.encStr (fun ss : List (List UInt8) => ss = []) 0 (w.alloc (.cells #[.map none] 80)) :=
    AnyZ.keys_gives_nil (ρ := keysRen) { keysLays with } Fence.wide _ trivial rfl w.heap.size _ (by simp) (by simp)
  exact (callsIn_wide (n := 5)).1 (AnyZ.sorted_in sortedLays Fence.wide 5 trivial trivial trivial trivial rfl (by omega) (sortsIn _) (enters_of Try.func80 (by kernel_rfl) rfl) 81 #[.pointer (some ⟨w.heap.size, 0, none⟩)] trivial (enters_of Try.func81 (by kernel_rfl) rfl) _ 0 (Nat.zero_le _) (by omega) _ hseq)

set_option maxRecDepth 100000 in
/-- The names of files: a new row. -/
theorem names_some (r : Nat) (l : List (Ent ByteArray)) (c N : Nat) (F : Files) (w : World) (h : Fil w r l c F) (hN : namF F N) (hN1 : N ≤ 1000) :
    Calls Try.prog 46 #[.map (some r)] w fun e w' => ∃ v ns, e = .returned v ∧ NamesOf F ns ∧ OwnS w' w.heap.size v ns ∧ Below w.heap.size w w' := by
  obtain ⟨D, hD, hsz, hk⟩ := h.owns hN hN1
  have HS := hide (sorted_call r N D w hD (by rw [hsz]; have := h.len hN; omega))
  have HK := hide hk
  have HN := hide (sortS_names h)
  clear h hN hk hD hsz
  go_enter Try.func46, Try.ntmps46
  go_wp2_with fail
  refine (keys_call _ _).mono ?_
  rintro e w1 ⟨rfl, rfl⟩
  go_wp2_with fail
  refine HS.out.mono ?_
  rintro e w2 ⟨v, ss, rfl, hp, hrow, _, hb⟩
  have HO : Hid (OwnS w2 w.heap.size v (sortS (l.map Ent.k))) := by
    have e1 := mergeSort_of_perm (hp.trans HK.out)
    have e2 : (sortS (l.map Ent.k)).map Value.string = (((l.map Ent.k).map fun s => s.data.toList).mergeSort leB).map Go.Proofs.encStr := by
      rw [sortS, List.map_map]
      rfl
    have e3 : (sortS (l.map Ent.k)).length = ss.length := by
      have := (hp.trans HK.out).length_eq
      rw [sortS_len]; simpa using this.symm
    show World.ownsRow _ _ _ _ _ _ _
    rw [e3, e2, ← e1]
    obtain ⟨q1, q2⟩ := hrow
    refine ⟨q1, ?_⟩
    rcases q2 with q2 | ⟨g', cap, cur, e, hg', rest⟩
    · exact Or.inl q2
    · exact Or.inr ⟨g', cap, cur, e, by simp at hg'; omega, rest⟩
  have HB := hide (((Below.refl _ w).alloc (Nat.le_refl _) _).trans (hb.mono (by simp)))
  clear hrow hb hp HS
  go_wp2
  go_ret
  exact ⟨v, _, rfl, HN.out, HO.out, HB.out⟩

set_option maxRecDepth 100000 in
theorem names_nil (w : World) :
    Calls Try.prog 46 #[.map none] w fun e w' => e = .returned (.slice none 0 0) ∧ Below w.heap.size w w' := by
  have HS := hide (sorted_nil w)
  go_enter Try.func46, Try.ntmps46
  go_wp2_with fail
  refine (keys_call _ _).mono ?_
  rintro e w1 ⟨rfl, rfl⟩
  go_wp2_with fail
  refine HS.out.mono ?_
  rintro e w2 ⟨v, ss, rfl, rfl, hrow, hn, hb⟩
  have hv := hn.2 rfl
  subst hv
  have HB := hide (((Below.refl _ w).alloc (Nat.le_refl _) _).trans (hb.mono (by simp)))
  clear hrow hb HS
  go_wp2
  go_ret
  exact ⟨rfl, HB.out⟩
end Go.Proofs.Ytjdbkmjhjcmoaaa
