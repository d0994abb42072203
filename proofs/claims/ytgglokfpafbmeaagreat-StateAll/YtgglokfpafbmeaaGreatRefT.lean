/- The document's state: its type's facts; how it lies. -/
import Derived.Test.YtgglokfpafbmeaaGreatStaG
import Derived.Test.YtgglokfpafbmeaaGreatKeyF
import Derived.Deep.MidRow
namespace Go.Proofs.YtgglokfpafbmeaaGreat
open Go.RowKit Go.MapKept Go.ChangeMaps

/-- What a spot holds that nothing lies at. -/
def spotZ : List Value := [.bool false, .int .i64 0, .slice none 0 0] ++ List.replicate 8 (.bool false) ++ List.replicate 8 (.int .i64 0)
def stZ : Array Value := ((List.replicate 192 spotZ).flatten).toArray
set_option maxRecDepth 100000 in
theorem zeroSt : Tryz.t109.zero = some (.agg stZ) := by kernel_rfl
theorem infoSt : (Tryz.prog.info? 109).map (·.size) = some 3648 := by kernel_rfl
theorem infoSp : (Tryz.prog.info? 104).map (·.size) = some 19 := by kernel_rfl
theorem infoA1 : (Tryz.prog.info? 105).map (·.size) = some 456 := by kernel_rfl
theorem infoA2 : (Tryz.prog.info? 106).map (·.size) = some 912 := by kernel_rfl
theorem zeroRun (w : World) : (zeroValue 109).run Tryz.prog w = .ok (.agg stZ) w := by
  have h := zeroSt
  simp [zeroValue, h]
theorem stZ_size : stZ.size = 3648 := by
  unfold stZ
  rw [List.size_toArray, List.length_flatten, List.map_replicate, List.sum_replicate_nat]
  rfl

/-- A key that may be. -/
def InK (κ : K3) : Prop := 0 ≤ κ.g ∧ κ.g < 4 ∧ 0 ≤ κ.n ∧ κ.n < 2 ∧ 0 ≤ κ.i ∧ κ.i < 24
theorem inK_iff (κ : K3) : keyB κ.g κ.n κ.i = true ↔ InK κ := by
  unfold keyB inR InK
  simp only [Bool.and_eq_true, decide_eq_true_eq]
  omega
/-- Where a key's spot begins. -/
def offK (κ : K3) : Nat := κ.g.toNat * 912 + κ.n.toNat * 456 + κ.i.toNat * 19
theorem offK_lt {κ : K3} (h : InK κ) : offK κ + 19 ≤ 3648 := by
  obtain ⟨h1, h2, h3, h4, h5, h6⟩ := h
  unfold offK
  omega
theorem off_inj {κ κ' : K3} (h : InK κ) (h' : InK κ') {t u : Nat} (ht : t < 19) (hu : u < 19) (e : offK κ + t = offK κ' + u) : κ = κ' ∧ t = u := by
  obtain ⟨h1, h2, h3, h4, h5, h6⟩ := h
  obtain ⟨k1, k2, k3, k4, k5, k6⟩ := h'
  unfold offK at e
  have e1 : κ.g = κ'.g := by omega
  have e2 : κ.n = κ'.n := by omega
  have e3 : κ.i = κ'.i := by omega
  exact ⟨K3.ext' e1 e2 e3, by rw [e1, e2, e3] at e; omega⟩
/-- The key of three small numbers. -/
def kN (g n i : Nat) (hg : g < 4) (hn : n < 2) (hi : i < 24) : K3 := ⟨((g : Int), (n : Int), (i : Int)), wf_small (g : Int) (by omega) (by omega), wf_small (n : Int) (by omega) (by omega), wf_small (i : Int) (by omega) (by omega)⟩

/-- The document's state in a block: its cells by their numbers. -/
def Bx (w : World) (x : Nat) (c : Nat → Value) : Prop := ∃ cur : Array Value, w.heap[x]? = some (.cells cur 109 (0, 0)) ∧ cur.size = 3648 ∧ ∀ o, o < 3648 → cur[o]? = some (c o)
def updC (c : Nat → Value) (p : Nat) (v : Value) : Nat → Value := fun o => if o = p then v else c o
section
variable {w w' : World} {x : Nat} {c : Nat → Value}
theorem Bx.lt (h : Bx w x c) : x < w.heap.size := by obtain ⟨cur, h1, _⟩ := h; exact lt_of_heap h1
theorem Bx.cell (h : Bx w x c) {o : Nat} (ho : o < 3648) : w.cell? ⟨x, o, none⟩ = some (c o) := by
  obtain ⟨cur, h1, h2, h3⟩ := h
  simp [World.cell?, h1, h3 o ho]
theorem Bx.free (h : Bx w x c) (o : Nat) : w.frozen? ⟨x, o, none⟩ = false := by
  obtain ⟨cur, h1, h2, h3⟩ := h
  simp [World.frozen?, h1]
theorem Bx.at (h : Bx w x c) (hh : w'.heap[x]? = w.heap[x]?) : Bx w' x c := by
  obtain ⟨cur, h1, h2⟩ := h
  exact ⟨cur, hh.trans h1, h2⟩
theorem Bx.set (h : Bx w x c) {p : Nat} (hp : p < 3648) (v : Value) : Bx (w.setCell ⟨x, p, none⟩ v) x (updC c p v) ∧ Tch (fun k => k = x) w (w.setCell ⟨x, p, none⟩ v) := by
  refine ⟨?_, (Tch.of (grown_setCell w x p v)).mono (fun k _ e => Option.some.inj e)⟩
  obtain ⟨cur, h1, h2, h3⟩ := h
  obtain ⟨hlt, he⟩ := Array.getElem?_eq_some_iff.1 h1
  refine ⟨cur.setIfInBounds p v, ?_, by simpa using h2, fun o ho => ?_⟩
  · simp [World.setCell, Array.getElem_modify, hlt, he]
  · rw [Array.getElem?_setIfInBounds]
    unfold updC
    by_cases e : o = p
    · subst e; rw [if_pos rfl, if_pos rfl, if_pos (by omega)]
    · rw [if_neg (fun e' => e e'.symm), if_neg e]
      exact h3 o ho
end
end Go.Proofs.YtgglokfpafbmeaaGreat
