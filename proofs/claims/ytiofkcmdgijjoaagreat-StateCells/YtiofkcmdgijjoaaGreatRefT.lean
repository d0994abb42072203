/- The document's state: its type's facts; how it lies. The document's state: one change, as far as its cells go. The document's state: a list cleared, a list with one number more. The document's state, as it lies in a block; one change of whatever kind. The document's state made; copied. -/
import Derived.Test.YtiofkcmdgijjoaaGreatStaG
import Derived.Test.YtiofkcmdgijjoaaGreatKeyF
import Derived.Deep.MidRow
import Derived.Deep.RegionHeld3
import Derived.Deep.RegionLaw
import Derived.Deep.LoopGhost
namespace Go.Proofs.YtiofkcmdgijjoaaGreat
open Go.RowKit Go.MapKept Go.ChangeMaps

/-- What a spot holds that nothing lies at. -/
def spotZ : List Value := [.bool false, .int .i64 0, .slice none 0 0] ++ List.replicate 8 (.bool false) ++ List.replicate 8 (.int .i64 0)
def stZ : Array Value := ((List.replicate 192 spotZ).flatten).toArray
set_option maxRecDepth 100000 in
theorem zeroSt : Tryz.t97.zero = some (.agg stZ) := by kernel_rfl
theorem infoSt : (Tryz.prog.info? 97).map (·.size) = some 3648 := by kernel_rfl
theorem infoSp : (Tryz.prog.info? 92).map (·.size) = some 19 := by kernel_rfl
theorem infoA1 : (Tryz.prog.info? 93).map (·.size) = some 456 := by kernel_rfl
theorem infoA2 : (Tryz.prog.info? 94).map (·.size) = some 912 := by kernel_rfl
theorem zeroRun (w : World) : (zeroValue 97).run Tryz.prog w = .ok (.agg stZ) w := by
  have h := zeroSt
  simp [zeroValue, h]
theorem stZ_size : stZ.size = 3648 := by
  unfold stZ
  rw [List.size_toArray, List.length_flatten, List.map_replicate, List.sum_replicate_nat]
  rfl

/-- A key that may be. -/
def InK (κ : K3) : Prop := 0 ≤ κ.g ∧ κ.g < 4 ∧ 0 ≤ κ.n ∧ κ.n < 2 ∧ 0 ≤ κ.i ∧ κ.i < 24
theorem inK_iff (κ : K3) : keyB κ.g κ.n κ.i = true ↔ InK κ := by
  unfold keyB inR InK
  simp only [Bool.and_eq_true, decide_eq_true_eq]
  omega
/-- Where a key's spot begins. -/
def offK (κ : K3) : Nat := κ.g.toNat * 912 + κ.n.toNat * 456 + κ.i.toNat * 19
theorem offK_lt {κ : K3} (h : InK κ) : offK κ + 19 ≤ 3648 := by
  obtain ⟨h1, h2, h3, h4, h5, h6⟩ := h
  unfold offK
  omega
theorem off_inj {κ κ' : K3} (h : InK κ) (h' : InK κ') {t u : Nat} (ht : t < 19) (hu : u < 19) (e : offK κ + t = offK κ' + u) : κ = κ' ∧ t = u := by
  obtain ⟨h1, h2, h3, h4, h5, h6⟩ := h
  obtain ⟨k1, k2, k3, k4, k5, k6⟩ := h'
  unfold offK at e
  have e1 : κ.g = κ'.g := by omega
  have e2 : κ.n = κ'.n := by omega
  have e3 : κ.i = κ'.i := by omega
  exact ⟨K3.ext' e1 e2 e3, by rw [e1, e2, e3] at e; omega⟩
/-- The key of three small numbers. -/
def kN (g n i : Nat) (hg : g < 4) (hn : n < 2) (hi : i < 24) : K3 := ⟨((g : Int), (n : Int), (i : Int)), wf_small (g : Int) (by omega) (by omega), wf_small (n : Int) (by omega) (by omega), wf_small (i : Int) (by omega) (by omega)⟩

/-- The document's state in a block: its cells by their numbers. -/
def Bx (w : World) (x : Nat) (c : Nat → Value) : Prop := ∃ cur : Array Value, w.heap[x]? = some (.cells cur 97 (0, 0)) ∧ cur.size = 3648 ∧ ∀ o, o < 3648 → cur[o]? = some (c o)
def updC (c : Nat → Value) (p : Nat) (v : Value) : Nat → Value := fun o => if o = p then v else c o
section
variable {w w' : World} {x : Nat} {c : Nat → Value}
theorem Bx.lt (h : Bx w x c) : x < w.heap.size := by obtain ⟨cur, h1, _⟩ := h; exact lt_of_heap h1
theorem Bx.cell (h : Bx w x c) {o : Nat} (ho : o < 3648) : w.cell? ⟨x, o, none⟩ = some (c o) := by
  obtain ⟨cur, h1, h2, h3⟩ := h
  simp [World.cell?, h1, h3 o ho]
theorem Bx.free (h : Bx w x c) (o : Nat) : w.frozen? ⟨x, o, none⟩ = false := by
  obtain ⟨cur, h1, h2, h3⟩ := h
  simp [World.frozen?, h1]
theorem Bx.at (h : Bx w x c) (hh : w'.heap[x]? = w.heap[x]?) : Bx w' x c := by
  obtain ⟨cur, h1, h2⟩ := h
  exact ⟨cur, hh.trans h1, h2⟩
theorem Bx.set (h : Bx w x c) {p : Nat} (hp : p < 3648) (v : Value) : Bx (w.setCell ⟨x, p, none⟩ v) x (updC c p v) ∧ Tch (fun k => k = x) w (w.setCell ⟨x, p, none⟩ v) := by
  refine ⟨?_, (Tch.of (grown_setCell w x p v)).mono (fun k _ e => Option.some.inj e)⟩
  obtain ⟨cur, h1, h2, h3⟩ := h
  obtain ⟨hlt, he⟩ := Array.getElem?_eq_some_iff.1 h1
  refine ⟨cur.setIfInBounds p v, ?_, by simpa using h2, fun o ho => ?_⟩
  · simp [World.setCell, Array.getElem_modify, hlt, he]
  · rw [Array.getElem?_setIfInBounds]
    unfold updC
    by_cases e : o = p
    · subst e; rw [if_pos rfl, if_pos rfl, if_pos (by omega)]
    · rw [if_neg (fun e' => e e'.symm), if_neg e]
      exact h3 o ho
end
end Go.Proofs.YtiofkcmdgijjoaaGreat

namespace Go.Proofs.YtiofkcmdgijjoaaGreat
open Go.RowKit Go.MapKept Go.ChangeMaps

theorem updC_comm (c : Nat → Value) {p q : Nat} (h : p ≠ q) (u v : Value) : updC (updC c p u) q v = updC (updC c q v) p u := by
  funext o
  unfold updC
  by_cases e1 : o = q
  · subst e1; rw [if_pos rfl, if_neg (fun e => h e.symm), if_pos rfl]
  · rw [if_neg e1, if_neg e1]
/-- Two cells set. -/
theorem Bx.set2 {w : World} {x : Nat} {c : Nat → Value} (h : Bx w x c) {p q : Nat} (hp : p < 3648) (hq : q < 3648) (hne : p ≠ q) (u v : Value) :
    (Bx ((w.setCell ⟨x, p, none⟩ u).setCell ⟨x, q, none⟩ v) x (updC (updC c p u) q v) ∧ Tch (fun k => k = x) w ((w.setCell ⟨x, p, none⟩ u).setCell ⟨x, q, none⟩ v)) ∧
    (Bx ((w.setCell ⟨x, q, none⟩ v).setCell ⟨x, p, none⟩ u) x (updC (updC c p u) q v) ∧ Tch (fun k => k = x) w ((w.setCell ⟨x, q, none⟩ v).setCell ⟨x, p, none⟩ u)) := by
  obtain ⟨h1, t1⟩ := h.set hp u
  obtain ⟨h2, t2⟩ := h1.set hq v
  obtain ⟨k1, s1⟩ := h.set hq v
  obtain ⟨k2, s2⟩ := k1.set hp u
  rw [updC_comm c hne]
  exact ⟨⟨by rw [← updC_comm c hne]; exact h2, t1.trans t2⟩, k2, s1.trans s2⟩

theorem tch_same {S : Nat → Prop} {a b b' : World} (h : Tch S a b) (h1 : b'.heap = b.heap) (h2 : b'.os = b.os) (h3 : b'.tape = b.tape) (h4 : b'.output = b.output) : Tch S a b' :=
  ⟨h2.trans h.os, h3.trans h.tape, h4.trans h.output, by rw [h1]; exact h.size, fun k hk hn => by rw [h1]; exact h.block k hk hn⟩

set_option maxRecDepth 100000 in
set_option maxHeartbeats 2000000 in
theorem one_1 (x g n i : Nat) (f : Int) (v : Int) (c : Nat → Value) (w : World) (h : Bx w x c) (hg : g < 4) (hn : n < 2) (hi : i < 24) :
    Calls Tryz.prog 49 #[.pointer (some ⟨x, 0, none⟩), .agg #[.int .i64 1, .int .i64 (g : Int), .int .i64 (n : Int), .int .i64 (i : Int), .int .i64 f, .int .i64 v]] w fun e w' => e = .returned (.bool true) ∧ Bx w' x (updC (updC c (g * 912 + n * 456 + i * 19) (.bool true)) (g * 912 + n * 456 + i * 19 + 1) (.int .i64 v)) ∧ Tch (fun k => k = x) w w' := by
  obtain ⟨p, hp⟩ : ∃ p, g * 912 + n * 456 + i * 19 = p := ⟨_, rfl⟩
  rw [hp]
  have hpl : p + 19 ≤ 3648 := by omega
  have hb := below_alloc w (.cells #[.int .i64 1, .int .i64 (g : Int), .int .i64 (n : Int), .int .i64 (i : Int), .int .i64 f, .int .i64 v] 55) w.heap.size (Nat.le_refl _)
  have hbx := heap_alloc_new w (.cells #[.int .i64 1, .int .i64 (g : Int), .int .i64 (n : Int), .int .i64 (i : Int), .int .i64 f, .int .i64 v] 55)
  have hB : Bx (w.alloc (.cells #[.int .i64 1, .int .i64 (g : Int), .int .i64 (n : Int), .int .i64 (i : Int), .int .i64 f, .int .i64 v] 55)) x c := h.at (hb.block _ h.lt)
  have hqx : w.heap.size ≠ x := by have := h.lt; omega
  have hxq : x ≠ w.heap.size := fun e => hqx e.symm
  have HBE := hide (Below.tch (S := fun k => k = x) hb)
  clear h hb
  go_enter Tryz.func49, Tryz.ntmps49
  go_wp2
  generalize w.alloc (.cells #[.int .i64 1, .int .i64 (g : Int), .int .i64 (n : Int), .int .i64 (i : Int), .int .i64 f, .int .i64 v] 55) = W at *
  generalize w.heap.size = q at *
  have hm := mt_cells (m := ⟨1, g, n, i, f, v⟩) hbx
  simp only at hm
  have s0 : W.drew.cell? ⟨q, 1, none⟩ = some (.int .i64 (g : Int)) ∧ W.drew.cell? ⟨q, 2, none⟩ = some (.int .i64 (n : Int)) ∧ W.drew.cell? ⟨q, 3, none⟩ = some (.int .i64 (i : Int)) := ⟨hm.2.1, hm.2.2.1, hm.2.2.2.1⟩
  have hgi : (0 : Int) ≤ (g : Int) ∧ (g : Int) < 4 := by omega
  have hni : (0 : Int) ≤ (n : Int) ∧ (n : Int) < 2 := by omega
  have hii : (0 : Int) ≤ (i : Int) ∧ (i : Int) < 24 := by omega
  obtain ⟨g0, g1⟩ := hgi
  obtain ⟨n0, n1⟩ := hni
  obtain ⟨i0, i1⟩ := hii
  have hcA := hB.cell (o := p) (by omega)
  have hcB := hB.cell (o := p + 1) (by omega)
  have hfA := hB.free (p)
  have hfB := hB.free (p + 1)
  have hAB : ¬ p = p + 1 := by omega
  have hBA : ¬ p + 1 = p := by omega
  have H2 := hide (hB.set2 (p := p) (q := p + 1) (by omega) (by omega) hAB (.bool true) (.int .i64 v))
  clear hB hbx
  go_region_held3 (fun w' => w'.cell? ⟨q, 1, none⟩ = some (.int .i64 (g : Int)) ∧ w'.cell? ⟨q, 2, none⟩ = some (.int .i64 (n : Int)) ∧ w'.cell? ⟨q, 3, none⟩ = some (.int .i64 (i : Int))) (with_reducible exact s0) (fail)
  all_goals
    obtain ⟨m0, m1, m2, m3, m4, m5⟩ := hm
    clear s0
    have s1 : W.drew.drew.cell? ⟨q, 5, none⟩ = some (.int .i64 v) := m5
    clear m1 m2 m3
    go_wp2
    go_region_held3 (fun w' => w'.cell? ⟨q, 5, none⟩ = some (.int .i64 v)) (first | with_reducible exact s1 | go_keep) (fail)
    all_goals
      go_wp2
      go_ret
      first
        | exact ⟨rfl, H2.out.1.1.at rfl, tch_same (HBE.out.trans H2.out.1.2) rfl rfl rfl rfl⟩
        | exact ⟨rfl, H2.out.2.1.at rfl, tch_same (HBE.out.trans H2.out.2.2) rfl rfl rfl rfl⟩

set_option maxRecDepth 100000 in
set_option maxHeartbeats 2000000 in
theorem one_2 (x g n i : Nat) (f : Int) (v : Int) (c : Nat → Value) (w : World) (h : Bx w x c) (hg : g < 4) (hn : n < 2) (hi : i < 24) :
    Calls Tryz.prog 49 #[.pointer (some ⟨x, 0, none⟩), .agg #[.int .i64 2, .int .i64 (g : Int), .int .i64 (n : Int), .int .i64 (i : Int), .int .i64 f, .int .i64 v]] w fun e w' => e = .returned (.bool true) ∧ Bx w' x (updC (updC c (g * 912 + n * 456 + i * 19) (.bool false)) (g * 912 + n * 456 + i * 19 + 1) (.int .i64 0)) ∧ Tch (fun k => k = x) w w' := by
  obtain ⟨p, hp⟩ : ∃ p, g * 912 + n * 456 + i * 19 = p := ⟨_, rfl⟩
  rw [hp]
  have hpl : p + 19 ≤ 3648 := by omega
  have hb := below_alloc w (.cells #[.int .i64 2, .int .i64 (g : Int), .int .i64 (n : Int), .int .i64 (i : Int), .int .i64 f, .int .i64 v] 55) w.heap.size (Nat.le_refl _)
  have hbx := heap_alloc_new w (.cells #[.int .i64 2, .int .i64 (g : Int), .int .i64 (n : Int), .int .i64 (i : Int), .int .i64 f, .int .i64 v] 55)
  have hB : Bx (w.alloc (.cells #[.int .i64 2, .int .i64 (g : Int), .int .i64 (n : Int), .int .i64 (i : Int), .int .i64 f, .int .i64 v] 55)) x c := h.at (hb.block _ h.lt)
  have hqx : w.heap.size ≠ x := by have := h.lt; omega
  have hxq : x ≠ w.heap.size := fun e => hqx e.symm
  have HBE := hide (Below.tch (S := fun k => k = x) hb)
  clear h hb
  go_enter Tryz.func49, Tryz.ntmps49
  go_wp2
  generalize w.alloc (.cells #[.int .i64 2, .int .i64 (g : Int), .int .i64 (n : Int), .int .i64 (i : Int), .int .i64 f, .int .i64 v] 55) = W at *
  generalize w.heap.size = q at *
  have hm := mt_cells (m := ⟨2, g, n, i, f, v⟩) hbx
  simp only at hm
  have s0 : W.drew.cell? ⟨q, 1, none⟩ = some (.int .i64 (g : Int)) ∧ W.drew.cell? ⟨q, 2, none⟩ = some (.int .i64 (n : Int)) ∧ W.drew.cell? ⟨q, 3, none⟩ = some (.int .i64 (i : Int)) := ⟨hm.2.1, hm.2.2.1, hm.2.2.2.1⟩
  have hgi : (0 : Int) ≤ (g : Int) ∧ (g : Int) < 4 := by omega
  have hni : (0 : Int) ≤ (n : Int) ∧ (n : Int) < 2 := by omega
  have hii : (0 : Int) ≤ (i : Int) ∧ (i : Int) < 24 := by omega
  obtain ⟨g0, g1⟩ := hgi
  obtain ⟨n0, n1⟩ := hni
  obtain ⟨i0, i1⟩ := hii
  have hcA := hB.cell (o := p) (by omega)
  have hcB := hB.cell (o := p + 1) (by omega)
  have hfA := hB.free (p)
  have hfB := hB.free (p + 1)
  have hAB : ¬ p = p + 1 := by omega
  have hBA : ¬ p + 1 = p := by omega
  have H2 := hide (hB.set2 (p := p) (q := p + 1) (by omega) (by omega) hAB (.bool false) (.int .i64 0))
  clear hB hbx
  go_region_held3 (fun w' => w'.cell? ⟨q, 1, none⟩ = some (.int .i64 (g : Int)) ∧ w'.cell? ⟨q, 2, none⟩ = some (.int .i64 (n : Int)) ∧ w'.cell? ⟨q, 3, none⟩ = some (.int .i64 (i : Int))) (with_reducible exact s0) (fail)
  all_goals
    obtain ⟨m0, m1, m2, m3, m4, m5⟩ := hm
    clear s0
    clear m1 m2 m3
    go_wp2
    go_ret
    exact ⟨rfl, H2.out.1.1.at rfl, tch_same (HBE.out.trans H2.out.1.2) rfl rfl rfl rfl⟩

set_option maxRecDepth 100000 in
set_option maxHeartbeats 2000000 in
theorem one_5 (x g n i : Nat) (v : Int) (f8 : Nat) (hf : f8 < 8) (c : Nat → Value) (w : World) (h : Bx w x c) (hg : g < 4) (hn : n < 2) (hi : i < 24) :
    Calls Tryz.prog 49 #[.pointer (some ⟨x, 0, none⟩), .agg #[.int .i64 5, .int .i64 (g : Int), .int .i64 (n : Int), .int .i64 (i : Int), .int .i64 (f8 : Int), .int .i64 v]] w fun e w' => e = .returned (.bool true) ∧ Bx w' x (updC (updC c (g * 912 + n * 456 + i * 19 + 3 + f8) (.bool true)) (g * 912 + n * 456 + i * 19 + 11 + f8) (.int .i64 v)) ∧ Tch (fun k => k = x) w w' := by
  obtain ⟨p, hp⟩ : ∃ p, g * 912 + n * 456 + i * 19 = p := ⟨_, rfl⟩
  rw [hp]
  have hpl : p + 19 ≤ 3648 := by omega
  have hb := below_alloc w (.cells #[.int .i64 5, .int .i64 (g : Int), .int .i64 (n : Int), .int .i64 (i : Int), .int .i64 (f8 : Int), .int .i64 v] 55) w.heap.size (Nat.le_refl _)
  have hbx := heap_alloc_new w (.cells #[.int .i64 5, .int .i64 (g : Int), .int .i64 (n : Int), .int .i64 (i : Int), .int .i64 (f8 : Int), .int .i64 v] 55)
  have hB : Bx (w.alloc (.cells #[.int .i64 5, .int .i64 (g : Int), .int .i64 (n : Int), .int .i64 (i : Int), .int .i64 (f8 : Int), .int .i64 v] 55)) x c := h.at (hb.block _ h.lt)
  have hqx : w.heap.size ≠ x := by have := h.lt; omega
  have hxq : x ≠ w.heap.size := fun e => hqx e.symm
  have HBE := hide (Below.tch (S := fun k => k = x) hb)
  clear h hb
  go_enter Tryz.func49, Tryz.ntmps49
  go_wp2
  generalize w.alloc (.cells #[.int .i64 5, .int .i64 (g : Int), .int .i64 (n : Int), .int .i64 (i : Int), .int .i64 (f8 : Int), .int .i64 v] 55) = W at *
  generalize w.heap.size = q at *
  have hm := mt_cells (m := ⟨5, g, n, i, (f8 : Int), v⟩) hbx
  simp only at hm
  have s0 : W.drew.cell? ⟨q, 1, none⟩ = some (.int .i64 (g : Int)) ∧ W.drew.cell? ⟨q, 2, none⟩ = some (.int .i64 (n : Int)) ∧ W.drew.cell? ⟨q, 3, none⟩ = some (.int .i64 (i : Int)) := ⟨hm.2.1, hm.2.2.1, hm.2.2.2.1⟩
  have hgi : (0 : Int) ≤ (g : Int) ∧ (g : Int) < 4 := by omega
  have hni : (0 : Int) ≤ (n : Int) ∧ (n : Int) < 2 := by omega
  have hii : (0 : Int) ≤ (i : Int) ∧ (i : Int) < 24 := by omega
  obtain ⟨g0, g1⟩ := hgi
  obtain ⟨n0, n1⟩ := hni
  obtain ⟨i0, i1⟩ := hii
  have hcA := hB.cell (o := p + 3 + f8) (by omega)
  have hcB := hB.cell (o := p + 11 + f8) (by omega)
  have hfA := hB.free (p + 3 + f8)
  have hfB := hB.free (p + 11 + f8)
  have hAB : ¬ p + 3 + f8 = p + 11 + f8 := by omega
  have hBA : ¬ p + 11 + f8 = p + 3 + f8 := by omega
  have hfi0 : (0 : Int) ≤ (f8 : Int) := by omega
  have hfi1 : (f8 : Int) < 8 := by omega
  have H2 := hide (hB.set2 (p := p + 3 + f8) (q := p + 11 + f8) (by omega) (by omega) hAB (.bool true) (.int .i64 v))
  clear hB hbx
  go_region_held3 (fun w' => w'.cell? ⟨q, 1, none⟩ = some (.int .i64 (g : Int)) ∧ w'.cell? ⟨q, 2, none⟩ = some (.int .i64 (n : Int)) ∧ w'.cell? ⟨q, 3, none⟩ = some (.int .i64 (i : Int))) (with_reducible exact s0) (fail)
  all_goals
    obtain ⟨m0, m1, m2, m3, m4, m5⟩ := hm
    clear s0
    have s1 : W.drew.drew.cell? ⟨q, 4, none⟩ = some (.int .i64 (f8 : Int)) ∧ W.drew.drew.cell? ⟨q, 5, none⟩ = some (.int .i64 v) := ⟨m4, m5⟩
    clear m1 m2 m3
    go_wp2
    go_region_held3 (fun w' => w'.cell? ⟨q, 4, none⟩ = some (.int .i64 (f8 : Int)) ∧ w'.cell? ⟨q, 5, none⟩ = some (.int .i64 v)) (first | with_reducible exact s1 | go_keep) (fail)
    all_goals
      go_wp2
      go_ret
      first
        | exact ⟨rfl, H2.out.1.1.at rfl, tch_same (HBE.out.trans H2.out.1.2) rfl rfl rfl rfl⟩
        | exact ⟨rfl, H2.out.2.1.at rfl, tch_same (HBE.out.trans H2.out.2.2) rfl rfl rfl rfl⟩

set_option maxRecDepth 100000 in
set_option maxHeartbeats 2000000 in
theorem one_6 (x g n i : Nat) (v : Int) (f8 : Nat) (hf : f8 < 8) (c : Nat → Value) (w : World) (h : Bx w x c) (hg : g < 4) (hn : n < 2) (hi : i < 24) :
    Calls Tryz.prog 49 #[.pointer (some ⟨x, 0, none⟩), .agg #[.int .i64 6, .int .i64 (g : Int), .int .i64 (n : Int), .int .i64 (i : Int), .int .i64 (f8 : Int), .int .i64 v]] w fun e w' => e = .returned (.bool true) ∧ Bx w' x (updC (updC c (g * 912 + n * 456 + i * 19 + 3 + f8) (.bool false)) (g * 912 + n * 456 + i * 19 + 11 + f8) (.int .i64 0)) ∧ Tch (fun k => k = x) w w' := by
  obtain ⟨p, hp⟩ : ∃ p, g * 912 + n * 456 + i * 19 = p := ⟨_, rfl⟩
  rw [hp]
  have hpl : p + 19 ≤ 3648 := by omega
  have hb := below_alloc w (.cells #[.int .i64 6, .int .i64 (g : Int), .int .i64 (n : Int), .int .i64 (i : Int), .int .i64 (f8 : Int), .int .i64 v] 55) w.heap.size (Nat.le_refl _)
  have hbx := heap_alloc_new w (.cells #[.int .i64 6, .int .i64 (g : Int), .int .i64 (n : Int), .int .i64 (i : Int), .int .i64 (f8 : Int), .int .i64 v] 55)
  have hB : Bx (w.alloc (.cells #[.int .i64 6, .int .i64 (g : Int), .int .i64 (n : Int), .int .i64 (i : Int), .int .i64 (f8 : Int), .int .i64 v] 55)) x c := h.at (hb.block _ h.lt)
  have hqx : w.heap.size ≠ x := by have := h.lt; omega
  have hxq : x ≠ w.heap.size := fun e => hqx e.symm
  have HBE := hide (Below.tch (S := fun k => k = x) hb)
  clear h hb
  go_enter Tryz.func49, Tryz.ntmps49
  go_wp2
  generalize w.alloc (.cells #[.int .i64 6, .int .i64 (g : Int), .int .i64 (n : Int), .int .i64 (i : Int), .int .i64 (f8 : Int), .int .i64 v] 55) = W at *
  generalize w.heap.size = q at *
  have hm := mt_cells (m := ⟨6, g, n, i, (f8 : Int), v⟩) hbx
  simp only at hm
  have s0 : W.drew.cell? ⟨q, 1, none⟩ = some (.int .i64 (g : Int)) ∧ W.drew.cell? ⟨q, 2, none⟩ = some (.int .i64 (n : Int)) ∧ W.drew.cell? ⟨q, 3, none⟩ = some (.int .i64 (i : Int)) := ⟨hm.2.1, hm.2.2.1, hm.2.2.2.1⟩
  have hgi : (0 : Int) ≤ (g : Int) ∧ (g : Int) < 4 := by omega
  have hni : (0 : Int) ≤ (n : Int) ∧ (n : Int) < 2 := by omega
  have hii : (0 : Int) ≤ (i : Int) ∧ (i : Int) < 24 := by omega
  obtain ⟨g0, g1⟩ := hgi
  obtain ⟨n0, n1⟩ := hni
  obtain ⟨i0, i1⟩ := hii
  have hcA := hB.cell (o := p + 3 + f8) (by omega)
  have hcB := hB.cell (o := p + 11 + f8) (by omega)
  have hfA := hB.free (p + 3 + f8)
  have hfB := hB.free (p + 11 + f8)
  have hAB : ¬ p + 3 + f8 = p + 11 + f8 := by omega
  have hBA : ¬ p + 11 + f8 = p + 3 + f8 := by omega
  have hfi0 : (0 : Int) ≤ (f8 : Int) := by omega
  have hfi1 : (f8 : Int) < 8 := by omega
  have H2 := hide (hB.set2 (p := p + 3 + f8) (q := p + 11 + f8) (by omega) (by omega) hAB (.bool false) (.int .i64 0))
  clear hB hbx
  go_region_held3 (fun w' => w'.cell? ⟨q, 1, none⟩ = some (.int .i64 (g : Int)) ∧ w'.cell? ⟨q, 2, none⟩ = some (.int .i64 (n : Int)) ∧ w'.cell? ⟨q, 3, none⟩ = some (.int .i64 (i : Int))) (with_reducible exact s0) (fail)
  all_goals
    obtain ⟨m0, m1, m2, m3, m4, m5⟩ := hm
    clear s0
    have s1 : W.drew.drew.cell? ⟨q, 4, none⟩ = some (.int .i64 (f8 : Int)) ∧ W.drew.drew.cell? ⟨q, 5, none⟩ = some (.int .i64 v) := ⟨m4, m5⟩
    clear m1 m2 m3
    go_wp2
    go_region_held3 (fun w' => w'.cell? ⟨q, 4, none⟩ = some (.int .i64 (f8 : Int)) ∧ w'.cell? ⟨q, 5, none⟩ = some (.int .i64 v)) (first | with_reducible exact s1 | go_keep) (fail)
    all_goals
      go_wp2
      go_ret
      first
        | exact ⟨rfl, H2.out.1.1.at rfl, tch_same (HBE.out.trans H2.out.1.2) rfl rfl rfl rfl⟩
        | exact ⟨rfl, H2.out.2.1.at rfl, tch_same (HBE.out.trans H2.out.2.2) rfl rfl rfl rfl⟩

end Go.Proofs.YtiofkcmdgijjoaaGreat

namespace Go.Proofs.YtiofkcmdgijjoaaGreat
open Go.RowKit Go.MapKept Go.ChangeMaps

set_option maxRecDepth 100000 in
set_option maxHeartbeats 2000000 in
theorem one_4 (x g n i : Nat) (f v : Int) (c : Nat → Value) (w : World) (h : Bx w x c) (hg : g < 4) (hn : n < 2) (hi : i < 24) :
    Calls Tryz.prog 49 #[.pointer (some ⟨x, 0, none⟩), .agg #[.int .i64 4, .int .i64 (g : Int), .int .i64 (n : Int), .int .i64 (i : Int), .int .i64 f, .int .i64 v]] w fun e w' => e = .returned (.bool true) ∧ Bx w' x (updC c (g * 912 + n * 456 + i * 19 + 2) (.slice none 0 0)) ∧ Tch (fun k => k = x) w w' := by
  obtain ⟨p, hp⟩ : ∃ p, g * 912 + n * 456 + i * 19 = p := ⟨_, rfl⟩
  rw [hp]
  have hpl : p + 19 ≤ 3648 := by omega
  have hb := below_alloc w (.cells #[.int .i64 4, .int .i64 (g : Int), .int .i64 (n : Int), .int .i64 (i : Int), .int .i64 f, .int .i64 v] 55) w.heap.size (Nat.le_refl _)
  have hbx := heap_alloc_new w (.cells #[.int .i64 4, .int .i64 (g : Int), .int .i64 (n : Int), .int .i64 (i : Int), .int .i64 f, .int .i64 v] 55)
  have hB : Bx (w.alloc (.cells #[.int .i64 4, .int .i64 (g : Int), .int .i64 (n : Int), .int .i64 (i : Int), .int .i64 f, .int .i64 v] 55)) x c := h.at (hb.block _ h.lt)
  have hqx : w.heap.size ≠ x := by have := h.lt; omega
  have HBE := hide (Below.tch (S := fun k => k = x) hb)
  clear h hb
  go_enter Tryz.func49, Tryz.ntmps49
  go_wp2
  generalize w.alloc (.cells #[.int .i64 4, .int .i64 (g : Int), .int .i64 (n : Int), .int .i64 (i : Int), .int .i64 f, .int .i64 v] 55) = W at *
  generalize w.heap.size = q at *
  have hm := mt_cells (m := ⟨4, g, n, i, f, v⟩) hbx
  simp only at hm
  have s0 : W.drew.cell? ⟨q, 1, none⟩ = some (.int .i64 (g : Int)) ∧ W.drew.cell? ⟨q, 2, none⟩ = some (.int .i64 (n : Int)) ∧ W.drew.cell? ⟨q, 3, none⟩ = some (.int .i64 (i : Int)) := ⟨hm.2.1, hm.2.2.1, hm.2.2.2.1⟩
  have hgi : (0 : Int) ≤ (g : Int) ∧ (g : Int) < 4 := by omega
  have hni : (0 : Int) ≤ (n : Int) ∧ (n : Int) < 2 := by omega
  have hii : (0 : Int) ≤ (i : Int) ∧ (i : Int) < 24 := by omega
  obtain ⟨g0, g1⟩ := hgi
  obtain ⟨n0, n1⟩ := hni
  obtain ⟨i0, i1⟩ := hii
  have hcA := hB.cell (o := p + 2) (by omega)
  have hfA := hB.free (p + 2)
  have H2 := hide (hB.set (p := p + 2) (by omega) (.slice none 0 0))
  clear hB hbx
  go_region_held3 (fun w' => w'.cell? ⟨q, 1, none⟩ = some (.int .i64 (g : Int)) ∧ w'.cell? ⟨q, 2, none⟩ = some (.int .i64 (n : Int)) ∧ w'.cell? ⟨q, 3, none⟩ = some (.int .i64 (i : Int))) (with_reducible exact s0) (fail)
  all_goals
    obtain ⟨m0, m1, m2, m3, m4, m5⟩ := hm
    clear s0 m1 m2 m3
    go_wp2
    go_ret
    exact ⟨rfl, H2.out.1.at rfl, tch_same (HBE.out.trans H2.out.2) rfl rfl rfl rfl⟩

/-- Two appends and a number between, in either order: what comes of it. -/
theorem app_two (W : World) (la : Option Addr) (lc : Nat) (L : List Int) (v : Int) (hr : Rd W la L.length lc L) (hl : L.length ≤ 1000) :
    ∃ v1 W1 ao2 c2 W2, (∀ ty, (Builtin.append_ #[29, 29] ty #[.slice none 0 0, .slice la L.length lc]).run Tryz.prog W = .ok v1 W1) ∧
      (∀ ty, (Builtin.append_ #[29, 29] ty #[v1, .slice (some ⟨W1.heap.size, 0, none⟩) 1 1]).run Tryz.prog (W1.alloc (.cells #[.int .i64 v] 2)) = .ok (.slice ao2 (L.length + 1) c2) W2) ∧
      Below W.heap.size W W1 ∧ Below W.heap.size W W2 ∧ RowI W2 (.slice ao2 (L.length + 1) c2) (L ++ [v]) ∧ (∀ j, (Value.slice ao2 (L.length + 1) c2).ownBlock = some j → W.heap.size ≤ j) := by
  obtain ⟨v1, W1, r1, o1, g1, p1⟩ := run_appI W (.slice none 0 0) [] (World.ownsRow_nil _ _ _ _) la L.length lc L hr (by simp; omega)
  have b1 : Below W.heap.size W W1 := (Below.refl _ _).grown g1 (Nat.le_refl _) (fun k hk => by cases hk)
  have q1 : ∀ j, v1.ownBlock = some j → W.heap.size ≤ j := fun j hj => by
    rcases p1 with e | e
    · rw [e] at hj; cases hj
    · rw [e] at hj; cases hj; exact Nat.le_refl _
  rw [List.nil_append] at o1
  have bA := below_alloc W1 (.cells #[.int .i64 v] 2) W1.heap.size (Nat.le_refl _)
  obtain ⟨v2, W2, r2, o2, g2, p2⟩ := run_appI (W1.alloc (.cells #[.int .i64 v] 2)) v1 L (RowO.later o1 bA) (some ⟨W1.heap.size, 0, none⟩) 1 1 [v] (rd_one v W1) (by omega)
  have b2 := b1.trans (bA.mono b1.size)
  obtain ⟨ao, cp, e, _⟩ := RowI.slice o2
  have el : (L ++ [v]).length = L.length + 1 := by simp
  rw [el] at e
  subst e
  refine ⟨v1, W1, ao, cp, W2, r1, r2, b1, b2.grown g2 b2.size q1, o2, fun j hj => ?_⟩
  rcases p2 with e | e
  · exact q1 j (by rw [← e]; exact hj)
  · rw [e] at hj
    cases hj
    exact b2.size
theorem app_two' (W : World) (la : Option Addr) (lc : Nat) (L : List Int) (v : Int) (hr : Rd W la L.length lc L) (hl : L.length ≤ 1000) :
    ∃ v1 W1 ao2 c2 W2, (∀ ty, (Builtin.append_ #[29, 29] ty #[.slice none 0 0, .slice la L.length lc]).run Tryz.prog (W.alloc (.cells #[.int .i64 v] 2)) = .ok v1 W1) ∧
      (∀ ty, (Builtin.append_ #[29, 29] ty #[v1, .slice (some ⟨W.heap.size, 0, none⟩) 1 1]).run Tryz.prog W1 = .ok (.slice ao2 (L.length + 1) c2) W2) ∧
      Below W.heap.size W W1 ∧ Below W.heap.size W W2 ∧ RowI W2 (.slice ao2 (L.length + 1) c2) (L ++ [v]) ∧ (∀ j, (Value.slice ao2 (L.length + 1) c2).ownBlock = some j → W.heap.size ≤ j) := by
  have bA := below_alloc W (.cells #[.int .i64 v] 2) W.heap.size (Nat.le_refl _)
  obtain ⟨v1, W1, r1, o1, g1, p1⟩ := run_appI (W.alloc (.cells #[.int .i64 v] 2)) (.slice none 0 0) [] (World.ownsRow_nil _ _ _ _) la L.length lc L (hr.later bA) (by simp; omega)
  have b1 : Below (W.alloc (.cells #[.int .i64 v] 2)).heap.size (W.alloc (.cells #[.int .i64 v] 2)) W1 := (Below.refl _ _).grown g1 (Nat.le_refl _) (fun k hk => by cases hk)
  have q1 : ∀ j, v1.ownBlock = some j → W.heap.size ≤ j := fun j hj => by
    rcases p1 with e | e
    · rw [e] at hj; cases hj
    · rw [e] at hj; cases hj; exact bA.size
  rw [List.nil_append] at o1
  obtain ⟨v2, W2, r2, o2, g2, p2⟩ := run_appI W1 v1 L o1 (some ⟨W.heap.size, 0, none⟩) 1 1 [v] ((rd_one v W).later b1) (by omega)
  have b2 := bA.trans (b1.mono bA.size)
  obtain ⟨ao, cp, e, _⟩ := RowI.slice o2
  have el : (L ++ [v]).length = L.length + 1 := by simp
  rw [el] at e
  subst e
  refine ⟨v1, W1, ao, cp, W2, r1, r2, b2, b2.grown g2 b2.size q1, o2, fun j hj => ?_⟩
  rcases p2 with e | e
  · exact q1 j (by rw [← e]; exact hj)
  · rw [e] at hj
    cases hj
    exact b2.size

theorem step_ran_at {w w' : World} (w0 : World) {ops : Array Oper} {o : Oper} {a : Act} {K : Act → World → Prop} {Q : Exit → Act → World → Prop} {E : Prop} (hgd : o.guard = none) (s x : Operand) (t t' : TypeId)
    (ho : o.op = .call { callee := .builtin .append, args := #[s, x], argTypes := #[t, t'] }) (v v2 v' : Value) (hw : w = w0) (hs : a.eval s = v) (hx : a.eval x = v2)
    (hrun : ∀ ty, (Builtin.append_ #[t, t'] ty #[v, v2]).run Tryz.prog w0 = .ok v' w') (h : K (a.put o.dst v') w') :
    if Region.wanted o (yielded ops a.tmps) = true then Oper.wp Tryz.prog o a w K Q else E := by
  subst hw
  exact step_ran hgd s x t t' ho v v2 v' hs hx hrun h

set_option maxRecDepth 100000 in
set_option maxHeartbeats 8000000 in
theorem one_3f (x g n i : Nat) (f v : Int) (c : Nat → Value) (w : World) (h : Bx w x c) (hg : g < 4) (hn : n < 2) (hi : i < 24) (la : Option Addr) (lc : Nat) (L : List Int) (hc : c (g * 912 + n * 456 + i * 19 + 2) = .slice la L.length lc) (hl : 100 ≤ L.length) :
    Calls Tryz.prog 49 #[.pointer (some ⟨x, 0, none⟩), .agg #[.int .i64 3, .int .i64 (g : Int), .int .i64 (n : Int), .int .i64 (i : Int), .int .i64 f, .int .i64 v]] w fun e w' => e = .returned (.bool false) ∧ Below w.heap.size w w' := by
  obtain ⟨p, hp⟩ : ∃ p, g * 912 + n * 456 + i * 19 = p := ⟨_, rfl⟩
  rw [hp] at hc
  have hpl : p + 19 ≤ 3648 := by omega
  have hb := below_alloc w (.cells #[.int .i64 3, .int .i64 (g : Int), .int .i64 (n : Int), .int .i64 (i : Int), .int .i64 f, .int .i64 v] 55) w.heap.size (Nat.le_refl _)
  have hbx := heap_alloc_new w (.cells #[.int .i64 3, .int .i64 (g : Int), .int .i64 (n : Int), .int .i64 (i : Int), .int .i64 f, .int .i64 v] 55)
  have hB : Bx (w.alloc (.cells #[.int .i64 3, .int .i64 (g : Int), .int .i64 (n : Int), .int .i64 (i : Int), .int .i64 f, .int .i64 v] 55)) x c := h.at (hb.block _ h.lt)
  have HBE := hide hb
  clear h hb
  go_enter Tryz.func49, Tryz.ntmps49
  go_wp2
  generalize w.alloc (.cells #[.int .i64 3, .int .i64 (g : Int), .int .i64 (n : Int), .int .i64 (i : Int), .int .i64 f, .int .i64 v] 55) = W at *
  generalize hqq : w.heap.size = q at *
  have hm := mt_cells (m := ⟨3, g, n, i, f, v⟩) hbx
  simp only at hm
  have s0 : W.drew.cell? ⟨q, 1, none⟩ = some (.int .i64 (g : Int)) ∧ W.drew.cell? ⟨q, 2, none⟩ = some (.int .i64 (n : Int)) ∧ W.drew.cell? ⟨q, 3, none⟩ = some (.int .i64 (i : Int)) := ⟨hm.2.1, hm.2.2.1, hm.2.2.2.1⟩
  have hgi : (0 : Int) ≤ (g : Int) ∧ (g : Int) < 4 := by omega
  have hni : (0 : Int) ≤ (n : Int) ∧ (n : Int) < 2 := by omega
  have hii : (0 : Int) ≤ (i : Int) ∧ (i : Int) < 24 := by omega
  obtain ⟨g0, g1⟩ := hgi
  obtain ⟨n0, n1⟩ := hni
  obtain ⟨i0, i1⟩ := hii
  have hcA := hB.cell (o := p + 2) (by omega)
  rw [hc] at hcA
  clear hB hbx hc
  go_region_held3 (fun w' => w'.cell? ⟨q, 1, none⟩ = some (.int .i64 (g : Int)) ∧ w'.cell? ⟨q, 2, none⟩ = some (.int .i64 (n : Int)) ∧ w'.cell? ⟨q, 3, none⟩ = some (.int .i64 (i : Int))) (with_reducible exact s0) (fail)
  all_goals
    obtain ⟨m0, m1, m2, m3, m4, m5⟩ := hm
    clear s0 m1 m2 m3 m4 m5
    have h1 : (100 : Int) ≤ (L.length : Int) := by omega
    have hqs : q ≤ W.heap.size := by rw [← hqq]; exact HBE.out.size
    have HF : Hid (Below q w W.drew) := HBE.out.trans ((Below.refl W.heap.size W).drew.mono hqs)
    go_wp2
    go_ret
    exact ⟨rfl, by rw [hqq]; exact HF.out⟩

set_option maxRecDepth 100000 in
set_option maxHeartbeats 8000000 in
theorem one_3 (x g n i : Nat) (f v : Int) (c : Nat → Value) (w : World) (h : Bx w x c) (hg : g < 4) (hn : n < 2) (hi : i < 24) (la : Option Addr) (lc : Nat) (L : List Int) (hc : c (g * 912 + n * 456 + i * 19 + 2) = .slice la L.length lc) (hr : Rd w la L.length lc L) (hl : L.length < 100) :
    Calls Tryz.prog 49 #[.pointer (some ⟨x, 0, none⟩), .agg #[.int .i64 3, .int .i64 (g : Int), .int .i64 (n : Int), .int .i64 (i : Int), .int .i64 f, .int .i64 v]] w fun e w' => e = .returned (.bool true) ∧ ∃ l', Bx w' x (updC c (g * 912 + n * 456 + i * 19 + 2) l') ∧ Tch (fun k => k = x) w w' ∧ RowI w' l' (L ++ [v]) ∧ ∀ j, l'.ownBlock = some j → w.heap.size ≤ j := by
  obtain ⟨p, hp⟩ : ∃ p, g * 912 + n * 456 + i * 19 = p := ⟨_, rfl⟩
  rw [hp] at hc ⊢
  have hpl : p + 19 ≤ 3648 := by omega
  have hb := below_alloc w (.cells #[.int .i64 3, .int .i64 (g : Int), .int .i64 (n : Int), .int .i64 (i : Int), .int .i64 f, .int .i64 v] 55) w.heap.size (Nat.le_refl _)
  have hbx := heap_alloc_new w (.cells #[.int .i64 3, .int .i64 (g : Int), .int .i64 (n : Int), .int .i64 (i : Int), .int .i64 f, .int .i64 v] 55)
  have hB : Bx (w.alloc (.cells #[.int .i64 3, .int .i64 (g : Int), .int .i64 (n : Int), .int .i64 (i : Int), .int .i64 f, .int .i64 v] 55)) x c := h.at (hb.block _ h.lt)
  have hqx : w.heap.size ≠ x := by have := h.lt; omega
  have hrW := hr.later hb
  have HBE := hide hb
  have hxl := h.lt
  clear h hb hr
  go_enter Tryz.func49, Tryz.ntmps49
  go_wp2
  generalize w.alloc (.cells #[.int .i64 3, .int .i64 (g : Int), .int .i64 (n : Int), .int .i64 (i : Int), .int .i64 f, .int .i64 v] 55) = W at *
  generalize hqq : w.heap.size = q at *
  have hm := mt_cells (m := ⟨3, g, n, i, f, v⟩) hbx
  simp only at hm
  have s0 : W.drew.cell? ⟨q, 1, none⟩ = some (.int .i64 (g : Int)) ∧ W.drew.cell? ⟨q, 2, none⟩ = some (.int .i64 (n : Int)) ∧ W.drew.cell? ⟨q, 3, none⟩ = some (.int .i64 (i : Int)) := ⟨hm.2.1, hm.2.2.1, hm.2.2.2.1⟩
  have hgi : (0 : Int) ≤ (g : Int) ∧ (g : Int) < 4 := by omega
  have hni : (0 : Int) ≤ (n : Int) ∧ (n : Int) < 2 := by omega
  have hii : (0 : Int) ≤ (i : Int) ∧ (i : Int) < 24 := by omega
  obtain ⟨g0, g1⟩ := hgi
  obtain ⟨n0, n1⟩ := hni
  obtain ⟨i0, i1⟩ := hii
  have hcA := hB.cell (o := p + 2) (by omega)
  rw [hc] at hcA
  have HB := hide hB
  have HR := hide hrW
  clear hB hbx hrW hc
  go_region_held3 (fun w' => w'.cell? ⟨q, 1, none⟩ = some (.int .i64 (g : Int)) ∧ w'.cell? ⟨q, 2, none⟩ = some (.int .i64 (n : Int)) ∧ w'.cell? ⟨q, 3, none⟩ = some (.int .i64 (i : Int))) (with_reducible exact s0) (fail)
  all_goals
    obtain ⟨m0, m1, m2, m3, m4, m5⟩ := hm
    clear s0 m1 m2 m3 m4
    have h1 : ¬ (100 : Int) ≤ (L.length : Int) := by omega
    have HB2 := hide (HB.out.at (w' := W.drew.drew) rfl)
    have HRD := hide ((HR.out.later (Below.refl _ _).drew).later (Below.refl _ _).drew)
    obtain ⟨vA1, WA1, aA, cA, WA2, rA1, rA2, bA1, bA, oA, jA⟩ := app_two W.drew.drew la lc L v HRD.out (by omega)
    obtain ⟨vB1, WB1, aB, cB, WB2, rB1, rB2, bB1, bB, oB, jB⟩ := app_two' W.drew.drew la lc L v HRD.out (by omega)
    have bAA : Below W.drew.drew.heap.size W.drew.drew (WA1.alloc (.cells #[.int .i64 v] 2)) := bA1.trans ((below_alloc WA1 (.cells #[.int .i64 v] 2) _ (Nat.le_refl _)).mono bA1.size)
    have bBA : Below W.drew.drew.heap.size W.drew.drew (W.alloc (.cells #[.int .i64 v] 2)).drew.drew := below_alloc W.drew.drew (.cells #[.int .i64 v] 2) _ (Nat.le_refl _)
    have y5 : ∀ W', Below W.drew.drew.heap.size W.drew.drew W' → W'.cell? ⟨q, 5, none⟩ = some (.int .i64 v) := fun W' hb => same_cell hb m5
    have x2 : ∀ W', Below W.drew.drew.heap.size W.drew.drew W' → W'.cell? ⟨x, p + 2, none⟩ = some (.slice la L.length lc) := fun W' hb => same_cell hb hcA
    have f2 : ∀ W', Below W.drew.drew.heap.size W.drew.drew W' → Bx W' x c := fun W' hb => HB2.out.at (hb.block _ HB2.out.lt)
    have yA1 := y5 _ bA1
    have yAA := y5 _ bAA
    have yB1 := y5 _ bB1
    have yBA := y5 _ bBA
    have xA1 := x2 _ bA1
    have xAA := x2 _ bAA
    have xB1 := x2 _ bB1
    have xBA := x2 _ bBA
    have xA2 := x2 _ bA
    have xB2 := x2 _ bB
    have fA2 := (f2 _ bA).free (p + 2)
    have fB2 := (f2 _ bB).free (p + 2)
    have RA1 := hide rA1
    have RA2 := hide rA2
    have RB1 := hide rB1
    have RB2 := hide rB2
    have hqs : q ≤ W.heap.size := by rw [← hqq]; exact HBE.out.size
    have HD : Hid (Below w.heap.size w W.drew.drew) := by rw [hqq]; exact (HBE.out.trans ((Below.refl W.heap.size W).drew.mono hqs)).trans ((Below.refl W.drew.heap.size W.drew).drew.mono hqs)
    have HEA : Hid (Bx (WA2.setCell ⟨x, p + 2, none⟩ (.slice aA (L.length + 1) cA)) x (updC c (p + 2) (.slice aA (L.length + 1) cA)) ∧ Tch (fun k => k = x) w (WA2.setCell ⟨x, p + 2, none⟩ (.slice aA (L.length + 1) cA)) ∧ RowI (WA2.setCell ⟨x, p + 2, none⟩ (.slice aA (L.length + 1) cA)) (.slice aA (L.length + 1) cA) (L ++ [v]) ∧ ∀ j, (Value.slice aA (L.length + 1) cA).ownBlock = some j → w.heap.size ≤ j) := by
      obtain ⟨k1, k2⟩ := (f2 _ bA).set (p := p + 2) (by omega) (.slice aA (L.length + 1) cA)
      have hj : ∀ j, (Value.slice aA (L.length + 1) cA).ownBlock = some j → W.heap.size ≤ j := jA
      have hw : w.heap.size ≤ W.heap.size := by rw [hqq]; exact hqs
      exact ⟨k1, (Below.tch (HD.out.trans (bA.mono HD.out.size))).trans k2, RowO.tch k2 oA (fun j h e => by have := hj j h; have := HB.out.lt; omega), fun j h => Nat.le_trans hw (hj j h)⟩
    have HEB : Hid (Bx (WB2.setCell ⟨x, p + 2, none⟩ (.slice aB (L.length + 1) cB)) x (updC c (p + 2) (.slice aB (L.length + 1) cB)) ∧ Tch (fun k => k = x) w (WB2.setCell ⟨x, p + 2, none⟩ (.slice aB (L.length + 1) cB)) ∧ RowI (WB2.setCell ⟨x, p + 2, none⟩ (.slice aB (L.length + 1) cB)) (.slice aB (L.length + 1) cB) (L ++ [v]) ∧ ∀ j, (Value.slice aB (L.length + 1) cB).ownBlock = some j → w.heap.size ≤ j) := by
      obtain ⟨k1, k2⟩ := (f2 _ bB).set (p := p + 2) (by omega) (.slice aB (L.length + 1) cB)
      have hj : ∀ j, (Value.slice aB (L.length + 1) cB).ownBlock = some j → W.heap.size ≤ j := jB
      have hw : w.heap.size ≤ W.heap.size := by rw [hqq]; exact hqs
      exact ⟨k1, (Below.tch (HD.out.trans (bB.mono HD.out.size))).trans k2, RowO.tch k2 oB (fun j h e => by have := hj j h; have := HB.out.lt; omega), fun j h => Nat.le_trans hw (hj j h)⟩
    clear rA1 rA2 rB1 rB2 y5 x2 f2 bA1 bA bB1 bB bAA bBA oA oB jA jB HB HB2 HR HRD HBE HD
    go_wp2
    go_region_law (first | (refine step_ran_at (W.drew.drew) rfl _ _ _ _ rfl (.slice none 0 0) (.slice la L.length lc) (vA1) ?_ ?_ ?_ RA1.out ?_; (with_reducible rfl); rfl; rfl) | (refine step_ran_at (WA1.alloc (.cells #[.int .i64 v] 2)) rfl _ _ _ _ rfl (vA1) (.slice (some ⟨WA1.heap.size, 0, none⟩) 1 1) (.slice aA (L.length + 1) cA) ?_ ?_ ?_ RA2.out ?_; (with_reducible rfl); rfl; rfl) | (refine step_ran_at ((W.alloc (.cells #[.int .i64 v] 2)).drew.drew) rfl _ _ _ _ rfl (.slice none 0 0) (.slice la L.length lc) (vB1) ?_ ?_ ?_ RB1.out ?_; (with_reducible rfl); rfl; rfl) | (refine step_ran_at (WB1) rfl _ _ _ _ rfl (vB1) (.slice (some ⟨W.drew.drew.heap.size, 0, none⟩) 1 1) (.slice aB (L.length + 1) cB) ?_ ?_ ?_ RB2.out ?_; (with_reducible rfl); rfl; rfl))
    all_goals
      go_wp2
      go_ret
      first
        | exact ⟨rfl, _, HEA.out⟩
        | exact ⟨rfl, _, HEB.out⟩

end Go.Proofs.YtiofkcmdgijjoaaGreat

namespace Go.Proofs.YtiofkcmdgijjoaaGreat
open Go.RowKit Go.MapKept Go.ChangeMaps

/-- What a spot's cells hold. -/
structure SpOK (c : Nat → Value) (κ : K3) (V : Option Int) (L : List Int) (D : List (Int × Int)) (l : Value) : Prop where
  h : c (offK κ) = .bool V.isSome
  v : c (offK κ + 1) = .int .i64 (V.getD 0)
  l : c (offK κ + 2) = l
  i : ∀ f : Nat, f < 8 → c (offK κ + 3 + f) = .bool (fldZ D (f : Int)).isSome
  d : ∀ f : Nat, f < 8 → c (offK κ + 11 + f) = .int .i64 ((fldZ D (f : Int)).getD 0)
theorem SpOK.same {c c' : Nat → Value} {κ : K3} {V : Option Int} {L : List Int} {D : List (Int × Int)} {l : Value} (h : SpOK c κ V L D l) (hc : ∀ t, t < 19 → c' (offK κ + t) = c (offK κ + t)) : SpOK c' κ V L D l :=
  ⟨(show c' (offK κ) = c (offK κ) by have := hc 0 (by omega); rw [Nat.add_zero] at this; exact this).trans h.h, (hc 1 (by omega)).trans h.v, (hc 2 (by omega)).trans h.l, fun f hf => by
    have := hc (3 + f) (by omega)
    rw [← Nat.add_assoc] at this
    exact this.trans (h.i f hf), fun f hf => by
    have := hc (11 + f) (by omega)
    rw [← Nat.add_assoc] at this
    exact this.trans (h.d f hf)⟩

/-- The document's state at x; its rows are among O. -/
structure Rf (w : World) (O : Nat → Prop) (x : Nat) (a : Ab) : Prop where
  own : O x
  dat : ∃ (c : Nat → Value) (lv : K3 → Value), Bx w x c ∧ (∀ κ, InK κ → SpOK c κ (a.V κ) (a.L κ) (a.D κ) (lv κ)) ∧ ∀ κ, InK κ → RowI w (lv κ) (a.L κ) ∧ ∀ j, (lv κ).ownBlock = some j → O j ∧ j ≠ x
  out : ∀ κ, ¬ InK κ → a.V κ = none ∧ a.L κ = [] ∧ a.D κ = []
  ok : AbOK a
  ll : ∀ κ, (a.L κ).length ≤ 100
section
variable {w w' : World} {O O' S : Nat → Prop} {x : Nat} {a a' : Ab}
theorem Rf.tch (h : Rf w O x a) (ht : Tch S w w') (hS : ∀ k, O k → k < w.heap.size → ¬ S k) : Rf w' O x a := by
  obtain ⟨c, lv, h1, h2, h3⟩ := h.dat
  have hx := h1.lt
  refine ⟨h.own, ⟨c, lv, h1.at (ht.block x hx (hS x h.own hx)), h2, fun κ hκ => ⟨RowO.tch ht (h3 κ hκ).1 (fun j hj => hS j ((h3 κ hκ).2 j hj).1 (World.ownsRow.lt (h3 κ hκ).1 j hj).2), (h3 κ hκ).2⟩⟩, h.out, h.ok, h.ll⟩
theorem Rf.later (h : Rf w O x a) (hb : Below w.heap.size w w') : Rf w' O x a := h.tch (S := fun _ => False) (Below.tch hb) (fun _ _ _ e => e)
theorem Rf.wide (h : Rf w O x a) (hO : ∀ k, O k → k < w.heap.size → O' k) : Rf w O' x a := by
  obtain ⟨c, lv, h1, h2, h3⟩ := h.dat
  exact ⟨hO x h.own h1.lt, ⟨c, lv, h1, h2, fun κ hκ => ⟨(h3 κ hκ).1, fun j hj => ⟨hO j ((h3 κ hκ).2 j hj).1 (World.ownsRow.lt (h3 κ hκ).1 j hj).2, ((h3 κ hκ).2 j hj).2⟩⟩⟩, h.out, h.ok, h.ll⟩
theorem Rf.lt (h : Rf w O x a) : x < w.heap.size := by obtain ⟨c, lv, h1, _⟩ := h.dat; exact h1.lt

/-- One spot turns. -/
theorem rf_upd {c c' : Nat → Value} {lv : K3 → Value} {κ : K3} {l' : Value} (h : Rf w O x a) (hB : Bx w' x c') (hS : ∀ κ', InK κ' → SpOK c κ' (a.V κ') (a.L κ') (a.D κ') (lv κ')) (hR : ∀ κ', InK κ' → RowI w (lv κ') (a.L κ') ∧ ∀ j, (lv κ').ownBlock = some j → O j ∧ j ≠ x)
    (ht : Tch (fun k => k = x) w w') (hκ : InK κ) (hc : ∀ o, (o < offK κ ∨ offK κ + 19 ≤ o) → c' o = c o) (hO : ∀ k, O k → O' k) (hoth : ∀ κ', κ' ≠ κ → a'.V κ' = a.V κ' ∧ a'.L κ' = a.L κ' ∧ a'.D κ' = a.D κ')
    (hsp : SpOK c' κ (a'.V κ) (a'.L κ) (a'.D κ) l') (hrow : RowI w' l' (a'.L κ)) (hrb : ∀ j, l'.ownBlock = some j → O' j ∧ j ≠ x) (hok : OkF (a'.D κ)) (hll : (a'.L κ).length ≤ 100) : Rf w' O' x a' := by
  refine ⟨hO x h.own, ⟨c', fun κ' => if κ' = κ then l' else lv κ', hB, fun κ' hκ' => ?_, fun κ' hκ' => ?_⟩, fun κ' hκ' => ?_, fun κ' => ?_, fun κ' => ?_⟩
  · by_cases e : κ' = κ
    · subst e
      show SpOK c' κ' _ _ _ (if κ' = κ' then l' else lv κ')
      rw [if_pos rfl]
      exact hsp
    · obtain ⟨e1, e2, e3⟩ := hoth κ' e
      show SpOK c' κ' _ _ _ (if κ' = κ then l' else lv κ')
      rw [if_neg e, e1, e2, e3]
      refine (hS κ' hκ').same (fun t htt => hc _ ?_)
      rcases Nat.lt_or_ge (offK κ' + t) (offK κ) with h1 | h1
      · exact Or.inl h1
      · rcases Nat.lt_or_ge (offK κ' + t) (offK κ + 19) with h2 | h2
        · exact absurd (off_inj hκ' hκ htt (u := offK κ' + t - offK κ) (by omega) (by omega)).1 e
        · exact Or.inr h2
  · by_cases e : κ' = κ
    · subst e
      show RowI w' (if κ' = κ' then l' else lv κ') _ ∧ _
      simp only [if_true]
      exact ⟨hrow, hrb⟩
    · obtain ⟨e1, e2, e3⟩ := hoth κ' e
      show RowI w' (if κ' = κ then l' else lv κ') _ ∧ _
      simp only [if_neg e, e2]
      exact ⟨RowO.tch ht (hR κ' hκ').1 (fun j hj => ((hR κ' hκ').2 j hj).2), fun j hj => ⟨hO j ((hR κ' hκ').2 j hj).1, ((hR κ' hκ').2 j hj).2⟩⟩
  · have e : κ' ≠ κ := fun e => hκ' (e ▸ hκ)
    obtain ⟨e1, e2, e3⟩ := hoth κ' e
    rw [e1, e2, e3]
    exact h.out κ' hκ'
  · by_cases e : κ' = κ
    · subst e; exact hok
    · rw [(hoth κ' e).2.2]; exact h.ok κ'
  · by_cases e : κ' = κ
    · subst e; exact hll
    · rw [(hoth κ' e).2.1]; exact h.ll κ'
end

theorem upd_o {f : K3 → Option Int} {κ k : K3} (v : Option Int) (h : k ≠ κ) : updK f κ v k = f k := by unfold updK; rw [if_neg h]
theorem upd_s {f : K3 → Option Int} {κ : K3} (v : Option Int) : updK f κ v κ = v := by unfold updK; rw [if_pos rfl]
theorem updR_o {α : Type} {f : K3 → List α} {κ k : K3} (v : List α) (h : k ≠ κ) : updR f κ v k = f k := by unfold updR; rw [if_neg h]
theorem updR_s {α : Type} {f : K3 → List α} {κ : K3} (v : List α) : updR f κ v κ = v := by unfold updR; rw [if_pos rfl]
theorem updC_o {c : Nat → Value} {p o : Nat} {v : Value} (h : o ≠ p) : updC c p v o = c o := by unfold updC; rw [if_neg h]
theorem updC_s {c : Nat → Value} {p : Nat} {v : Value} : updC c p v p = v := by unfold updC; rw [if_pos rfl]

set_option maxRecDepth 100000 in
/-- One change. -/
theorem refOne {w : World} {O : Nat → Prop} {x : Nat} {a : Ab} (h : Rf w O x a) (m : Mq) (hm : mayB m.m = true) :
    Calls Tryz.prog 49 #[.pointer (some ⟨x, 0, none⟩), mV m.m] w fun e w' => ((m.c = 3 ∧ 100 ≤ (a.L m.k).length) → e = .returned (.bool false)) ∧
      (¬ (m.c = 3 ∧ 100 ≤ (a.L m.k).length) → e = .returned (.bool true) ∧ Rf w' (fun k => O k ∨ w.heap.size ≤ k) x (doQ a m)) ∧ Tch (fun k => k = x) w w' := by
  have h5 := may_range hm
  have hko : 1 ≤ m.c ∧ m.c ≤ 6 ∧ InK m.k ∧ (m.c = 6 → 0 ≤ m.f ∧ m.f < 8) := by
    simp only [mayB, Bool.and_eq_true] at hm
    obtain ⟨⟨⟨h1, h2⟩, h3⟩, _⟩ := hm
    have h1' := of_decide_eq_true h1
    refine ⟨h1'.1, h1'.2, (inK_iff m.k).1 h2, fun e => ?_⟩
    unfold fieldB hasF at h3
    have e' : m.m.k = 6 := e
    simp [e'] at h3
    exact of_decide_eq_true h3
  obtain ⟨k1, k6, hκ, h6⟩ := hko
  obtain ⟨c, lv, hB, hS, hR⟩ := h.dat
  obtain ⟨mc, κ, mf, mv⟩ := m
  simp only at k1 k6 hκ h6 h5
  obtain ⟨g0, g1, n0, n1, i0, i1⟩ := hκ
  have hκ : InK κ := ⟨g0, g1, n0, n1, i0, i1⟩
  obtain ⟨g, hg⟩ : ∃ g : Nat, κ.g = (g : Int) := ⟨κ.g.toNat, by omega⟩
  obtain ⟨n, hn⟩ : ∃ n : Nat, κ.n = (n : Int) := ⟨κ.n.toNat, by omega⟩
  obtain ⟨i, hi⟩ : ∃ i : Nat, κ.i = (i : Int) := ⟨κ.i.toNat, by omega⟩
  have hp : g * 912 + n * 456 + i * 19 = offK κ := by unfold offK; rw [hg, hn, hi]; simp
  have hgl : g < 4 := by omega
  have hnl : n < 2 := by omega
  have hil : i < 24 := by omega
  have hO : ∀ k, O k → (O k ∨ w.heap.size ≤ k) := fun k hk => Or.inl hk
  have hsp := hS κ hκ
  have hrow := hR κ hκ
  show Calls _ _ #[_, .agg #[.int .i64 mc, .int .i64 κ.g, .int .i64 κ.n, .int .i64 κ.i, .int .i64 mf, .int .i64 mv]] w _
  rw [hg, hn, hi]
  have hc6 : mc = 1 ∨ mc = 2 ∨ mc = 3 ∨ mc = 4 ∨ mc = 5 ∨ mc = 6 := by omega
  rcases hc6 with rfl | rfl | rfl | rfl | rfl | rfl
  · refine (one_1 x g n i mf mv c w hB hgl hnl hil).mono ?_
    rintro e w' ⟨r1, r2, r3⟩
    rw [hp] at r2
    refine ⟨fun e => absurd (show (1 : Int) = 3 from e.1) (by decide), fun _ => ⟨r1, ?_⟩, r3⟩
    refine rf_upd h r2 hS hR r3 hκ (fun o ho => by rw [updC_o (by omega), updC_o (by omega)]) hO (a' := ⟨updK a.V κ (some mv), a.L, a.D⟩) (fun κ' e => ⟨upd_o _ e, rfl, rfl⟩) (l' := lv κ) ?_ (RowO.tch r3 hrow.1 (fun j hj => (hrow.2 j hj).2)) (fun j hj => ⟨Or.inl (hrow.2 j hj).1, (hrow.2 j hj).2⟩) (h.ok κ) (h.ll κ)
    show SpOK _ κ (updK a.V κ (some mv) κ) (a.L κ) (a.D κ) (lv κ)
    rw [upd_s]
    exact ⟨by rw [updC_o (by omega), updC_s]; rfl, by rw [updC_s]; rfl, by rw [updC_o (by omega), updC_o (by omega)]; exact hsp.l, fun f hf => by rw [updC_o (by omega), updC_o (by omega)]; exact hsp.i f hf, fun f hf => by rw [updC_o (by omega), updC_o (by omega)]; exact hsp.d f hf⟩
  · refine (one_2 x g n i mf mv c w hB hgl hnl hil).mono ?_
    rintro e w' ⟨r1, r2, r3⟩
    rw [hp] at r2
    refine ⟨fun e => absurd (show (2 : Int) = 3 from e.1) (by decide), fun _ => ⟨r1, ?_⟩, r3⟩
    refine rf_upd h r2 hS hR r3 hκ (fun o ho => by rw [updC_o (by omega), updC_o (by omega)]) hO (a' := ⟨updK a.V κ none, a.L, a.D⟩) (fun κ' e => ⟨upd_o _ e, rfl, rfl⟩) (l' := lv κ) ?_ (RowO.tch r3 hrow.1 (fun j hj => (hrow.2 j hj).2)) (fun j hj => ⟨Or.inl (hrow.2 j hj).1, (hrow.2 j hj).2⟩) (h.ok κ) (h.ll κ)
    show SpOK _ κ (updK a.V κ none κ) (a.L κ) (a.D κ) (lv κ)
    rw [upd_s]
    exact ⟨by rw [updC_o (by omega), updC_s]; rfl, by rw [updC_s]; rfl, by rw [updC_o (by omega), updC_o (by omega)]; exact hsp.l, fun f hf => by rw [updC_o (by omega), updC_o (by omega)]; exact hsp.i f hf, fun f hf => by rw [updC_o (by omega), updC_o (by omega)]; exact hsp.d f hf⟩
  · obtain ⟨la, lc, e1, hrd, _⟩ := RowI.slice hrow.1
    have hcl : c (g * 912 + n * 456 + i * 19 + 2) = .slice la (a.L κ).length lc := by rw [hp, hsp.l]; exact e1
    by_cases h100 : 100 ≤ (a.L κ).length
    · refine (one_3f x g n i mf mv c w hB hgl hnl hil la lc (a.L κ) hcl h100).mono ?_
      rintro e w' ⟨r1, r2⟩
      exact ⟨fun _ => r1, fun e => absurd ⟨rfl, h100⟩ e, Below.tch r2⟩
    · refine (one_3 x g n i mf mv c w hB hgl hnl hil la lc (a.L κ) hcl hrd (by omega)).mono ?_
      rintro e w' ⟨r1, l', r2, r3, r4, r5⟩
      rw [hp] at r2
      refine ⟨fun e => absurd e.2 h100, fun _ => ⟨r1, ?_⟩, r3⟩
      refine rf_upd h r2 hS hR r3 hκ (fun o ho => by rw [updC_o (by omega)]) hO (a' := ⟨a.V, updR a.L κ (a.L κ ++ [mv]), a.D⟩) (fun κ' e => ⟨rfl, updR_o _ e, rfl⟩) (l' := l') ?_ (by show RowI w' l' (updR a.L κ (a.L κ ++ [mv]) κ); rw [updR_s]; exact r4) (fun j hj => ⟨Or.inr (r5 j hj), fun e => by have := r5 j hj; have := hB.lt; omega⟩) (h.ok κ) (by show (updR a.L κ (a.L κ ++ [mv]) κ).length ≤ 100; rw [updR_s, List.length_append]; simp; omega)
      show SpOK _ κ (a.V κ) (updR a.L κ (a.L κ ++ [mv]) κ) (a.D κ) l'
      exact ⟨by rw [updC_o (by omega)]; exact hsp.h, by rw [updC_o (by omega)]; exact hsp.v, updC_s, fun f hf => by rw [updC_o (by omega)]; exact hsp.i f hf, fun f hf => by rw [updC_o (by omega)]; exact hsp.d f hf⟩
  · refine (one_4 x g n i mf mv c w hB hgl hnl hil).mono ?_
    rintro e w' ⟨r1, r2, r3⟩
    rw [hp] at r2
    refine ⟨fun e => absurd (show (4 : Int) = 3 from e.1) (by decide), fun _ => ⟨r1, ?_⟩, r3⟩
    refine rf_upd h r2 hS hR r3 hκ (fun o ho => by rw [updC_o (by omega)]) hO (a' := ⟨a.V, updR a.L κ [], a.D⟩) (fun κ' e => ⟨rfl, updR_o _ e, rfl⟩) (l' := .slice none 0 0) ?_ (by show RowI w' (.slice none 0 0) (updR a.L κ [] κ); rw [updR_s]; exact World.ownsRow_nil _ _ _ _) (fun j hj => by cases hj) (h.ok κ) (by show (updR a.L κ [] κ).length ≤ 100; rw [updR_s]; simp)
    show SpOK _ κ (a.V κ) (updR a.L κ [] κ) (a.D κ) _
    exact ⟨by rw [updC_o (by omega)]; exact hsp.h, by rw [updC_o (by omega)]; exact hsp.v, updC_s, fun f hf => by rw [updC_o (by omega)]; exact hsp.i f hf, fun f hf => by rw [updC_o (by omega)]; exact hsp.d f hf⟩
  · obtain ⟨f0, f8⟩ := h5 rfl
    obtain ⟨fn, hf⟩ : ∃ fn : Nat, mf = (fn : Int) := ⟨mf.toNat, by omega⟩
    subst hf
    refine (one_5 x g n i mv fn (by omega) c w hB hgl hnl hil).mono ?_
    rintro e w' ⟨r1, r2, r3⟩
    rw [hp] at r2
    refine ⟨fun e => absurd (show (5 : Int) = 3 from e.1) (by decide), fun _ => ⟨r1, ?_⟩, r3⟩
    have hput := fld_put (fn : Int) mv (h.ok κ).1
    refine rf_upd h r2 hS hR r3 hκ (fun o ho => by rw [updC_o (by omega), updC_o (by omega)]) hO (a' := ⟨a.V, a.L, updR a.D κ (putF (a.D κ) (fn : Int) mv)⟩) (fun κ' e => ⟨rfl, rfl, updR_o _ e⟩) (l' := lv κ) ?_ (RowO.tch r3 hrow.1 (fun j hj => (hrow.2 j hj).2)) (fun j hj => ⟨Or.inl (hrow.2 j hj).1, (hrow.2 j hj).2⟩) (by show OkF (updR a.D κ (putF (a.D κ) (fn : Int) mv) κ); rw [updR_s]; exact OkF.put mv (h.ok κ) f0 f8) (h.ll κ)
    show SpOK _ κ (a.V κ) (a.L κ) (updR a.D κ (putF (a.D κ) (fn : Int) mv) κ) (lv κ)
    rw [updR_s, putF_eq]
    refine ⟨by rw [updC_o (by omega), updC_o (by omega)]; exact hsp.h, by rw [updC_o (by omega), updC_o (by omega)]; exact hsp.v, by rw [updC_o (by omega), updC_o (by omega)]; exact hsp.l, fun f hf => ?_, fun f hf => ?_⟩
    · rw [hput]
      by_cases e : f = fn
      · subst e; rw [updC_o (by omega), updC_s, if_pos rfl]; rfl
      · rw [updC_o (by omega), updC_o (by omega), if_neg (by omega)]; exact hsp.i f hf
    · rw [hput]
      by_cases e : f = fn
      · subst e; rw [updC_s, if_pos rfl]; rfl
      · rw [updC_o (by omega), updC_o (by omega), if_neg (by omega)]; exact hsp.d f hf
  · obtain ⟨f0, f8⟩ := h6 rfl
    obtain ⟨fn, hf⟩ : ∃ fn : Nat, mf = (fn : Int) := ⟨mf.toNat, by omega⟩
    subst hf
    refine (one_6 x g n i mv fn (by omega) c w hB hgl hnl hil).mono ?_
    rintro e w' ⟨r1, r2, r3⟩
    rw [hp] at r2
    refine ⟨fun e => absurd (show (6 : Int) = 3 from e.1) (by decide), fun _ => ⟨r1, ?_⟩, r3⟩
    have hcut := fld_cut (fn : Int) (h.ok κ).1
    refine rf_upd h r2 hS hR r3 hκ (fun o ho => by rw [updC_o (by omega), updC_o (by omega)]) hO (a' := ⟨a.V, a.L, updR a.D κ (cutF (a.D κ) (fn : Int))⟩) (fun κ' e => ⟨rfl, rfl, updR_o _ e⟩) (l' := lv κ) ?_ (RowO.tch r3 hrow.1 (fun j hj => (hrow.2 j hj).2)) (fun j hj => ⟨Or.inl (hrow.2 j hj).1, (hrow.2 j hj).2⟩) (by show OkF (updR a.D κ (cutF (a.D κ) (fn : Int)) κ); rw [updR_s]; exact OkF.cut _ (h.ok κ)) (h.ll κ)
    show SpOK _ κ (a.V κ) (a.L κ) (updR a.D κ (cutF (a.D κ) (fn : Int)) κ) (lv κ)
    rw [updR_s, cutF_eq]
    refine ⟨by rw [updC_o (by omega), updC_o (by omega)]; exact hsp.h, by rw [updC_o (by omega), updC_o (by omega)]; exact hsp.v, by rw [updC_o (by omega), updC_o (by omega)]; exact hsp.l, fun f hf => ?_, fun f hf => ?_⟩
    · rw [hcut]
      by_cases e : f = fn
      · subst e; rw [updC_o (by omega), updC_s, if_pos rfl]; rfl
      · rw [updC_o (by omega), updC_o (by omega), if_neg (by omega)]; exact hsp.i f hf
    · rw [hcut]
      by_cases e : f = fn
      · subst e; rw [updC_s, if_pos rfl]; rfl
      · rw [updC_o (by omega), updC_o (by omega), if_neg (by omega)]; exact hsp.d f hf
end Go.Proofs.YtiofkcmdgijjoaaGreat

namespace Go.Proofs.YtiofkcmdgijjoaaGreat
open Go.RowKit Go.MapKept Go.ChangeMaps

/-- Every cell is a spot's. -/
theorem spot_of {o : Nat} (h : o < 3648) : ∃ κ t, InK κ ∧ t < 19 ∧ o = offK κ + t := by
  have h1 : o / 912 < 4 := by omega
  have h2 : o % 912 / 456 < 2 := by omega
  have h3 : o % 456 / 19 < 24 := by omega
  refine ⟨kN (o / 912) (o % 912 / 456) (o % 456 / 19) h1 h2 h3, o % 19, ⟨?_, ?_, ?_, ?_, ?_, ?_⟩, by omega, ?_⟩
  · show (0 : Int) ≤ ((o / 912 : Nat) : Int); omega
  · show ((o / 912 : Nat) : Int) < 4; omega
  · show (0 : Int) ≤ ((o % 912 / 456 : Nat) : Int); omega
  · show ((o % 912 / 456 : Nat) : Int) < 2; omega
  · show (0 : Int) ≤ ((o % 456 / 19 : Nat) : Int); omega
  · show ((o % 456 / 19 : Nat) : Int) < 24; omega
  · show o = ((o / 912 : Nat) : Int).toNat * 912 + ((o % 912 / 456 : Nat) : Int).toNat * 456 + ((o % 456 / 19 : Nat) : Int).toNat * 19 + o % 19
    omega
theorem SpOK.one {c : Nat → Value} {κ : K3} {V : Option Int} {L : List Int} {D : List (Int × Int)} {l : Value} (h : SpOK c κ V L D l) (hl : l.oneCell' = true) {t : Nat} (ht : t < 19) : (c (offK κ + t)).oneCell' = true := by
  rcases Nat.lt_or_ge t 3 with h1 | h1
  · rcases (show t = 0 ∨ t = 1 ∨ t = 2 by omega) with rfl | rfl | rfl
    · rw [Nat.add_zero, h.h]; rfl
    · rw [h.v]; rfl
    · rw [h.l]; exact hl
  · rcases Nat.lt_or_ge t 11 with h2 | h2
    · have := h.i (t - 3) (by omega)
      rw [show offK κ + 3 + (t - 3) = offK κ + t by omega] at this
      rw [this]; rfl
    · have := h.d (t - 11) (by omega)
      rw [show offK κ + 11 + (t - 11) = offK κ + t by omega] at this
      rw [this]; rfl
theorem rowI_one {w : World} {v : Value} {z : List Int} (h : RowI w v z) : v.oneCell' = true := by
  obtain ⟨ao, cp, rfl, _⟩ := RowI.slice h
  rfl

/-- A new state's cells. -/
def c0 (o : Nat) : Value := (spotZ[o % 19]?).getD undef
theorem flat_rep (z : List Value) (hz : z.length = 19) : ∀ (n o : Nat), o < n * 19 → ((List.replicate n z).flatten)[o]? = z[o % 19]? := by
  intro n
  induction n with
  | zero => intro o h; omega
  | succ n ih =>
    intro o h
    rw [List.replicate_succ, List.flatten_cons]
    rcases Nat.lt_or_ge o 19 with h1 | h1
    · rw [List.getElem?_append_left (by omega), Nat.mod_eq_of_lt h1]
    · rw [List.getElem?_append_right (by omega), hz, ih (o - 19) (by omega)]
      congr 1
      omega
theorem stZ_at {o : Nat} (h : o < 3648) : stZ[o]? = some (c0 o) := by
  have hz : spotZ.length = 19 := rfl
  have : stZ[o]? = spotZ[o % 19]? := by
    show ((List.replicate 192 spotZ).flatten).toArray[o]? = _
    rw [List.getElem?_toArray]
    exact flat_rep spotZ hz 192 o (by omega)
  rw [this]
  unfold c0
  rw [List.getElem?_eq_getElem (by rw [hz]; omega)]
  rfl
theorem c0_at (κ : K3) {t : Nat} (ht : t < 19) (v : Value) (hv : spotZ[t]? = some v) : c0 (offK κ + t) = v := by
  have : (offK κ + t) % 19 = t := by unfold offK; omega
  unfold c0
  rw [this, hv]
  rfl
theorem spot0K (κ : K3) : SpOK c0 κ none [] [] (.slice none 0 0) := by
  refine ⟨by have := c0_at κ (t := 0) (by omega) (.bool false) rfl; rw [Nat.add_zero] at this; exact this, c0_at κ (t := 1) (by omega) _ rfl, c0_at κ (t := 2) (by omega) _ rfl, fun f hf => ?_, fun f hf => ?_⟩
  · rw [Nat.add_assoc]
    refine c0_at κ (t := 3 + f) (by omega) (.bool false) ?_
    rcases (show f = 0 ∨ f = 1 ∨ f = 2 ∨ f = 3 ∨ f = 4 ∨ f = 5 ∨ f = 6 ∨ f = 7 by omega) with rfl | rfl | rfl | rfl | rfl | rfl | rfl | rfl <;> rfl
  · rw [Nat.add_assoc]
    refine c0_at κ (t := 11 + f) (by omega) (.int .i64 0) ?_
    rcases (show f = 0 ∨ f = 1 ∨ f = 2 ∨ f = 3 ∨ f = 4 ∨ f = 5 ∨ f = 6 ∨ f = 7 by omega) with rfl | rfl | rfl | rfl | rfl | rfl | rfl | rfl <;> rfl
theorem Bx.zero (w : World) : Bx (w.alloc (.cells stZ 97)) w.heap.size c0 := ⟨stZ, heap_alloc_new w _, stZ_size, fun _ ho => stZ_at ho⟩
theorem Rf.zero (w : World) : Rf (w.alloc (.cells stZ 97)) (fun k => w.heap.size ≤ k) w.heap.size ab0 :=
  ⟨Nat.le_refl _, ⟨c0, fun _ => .slice none 0 0, Bx.zero w, fun κ _ => spot0K κ, fun κ _ => ⟨World.ownsRow_nil _ _ _ _, fun j hj => by cases hj⟩⟩, fun _ _ => ⟨rfl, rfl, rfl⟩, abOK0, fun _ => Nat.zero_le _⟩

theorem run_buildSt (w : World) : (Instr.build 97 #[]).run Tryz.prog w = .ok (.agg stZ) w := by
  have h := zeroRun w
  simp [Instr.build, h, run_underlying Tryz.underlying97, Value.cells, Instr.fill]
theorem run_boxSt (w : World) : (Instr.box 97 (.agg stZ)).run Tryz.prog w = .ok (.pointer (some ⟨w.heap.size, 0, none⟩)) (w.alloc (.cells stZ 97)) := by
  simp [Instr.box, newVar, newRow, Value.cells]
theorem run_allocSt (w : World) : (Instr.alloc 97 true (.tuple #[])).run Tryz.prog w = .ok (.pointer (some ⟨w.heap.size, 0, none⟩)) (w.alloc (.cells stZ 97)) := by
  have h := zeroRun w
  simp [Instr.alloc, h, newVar, newRow, Value.cells]

theorem wpList_allocSt {ops : Array Oper} {rest : List Oper} {op : Oper} {a : Act} {w : World} {Q : Exit → Act → World → Prop} (hgd : op.guard = none) (ho : op.op = .alloc 97)
    (h : wpList Tryz.prog ops Q rest (a.put op.dst (.pointer (some ⟨w.heap.size, 0, none⟩))) (w.alloc (.cells stZ 97))) : wpList Tryz.prog ops Q (op :: rest) a w :=
  wpList_plain hgd fun _ hK => by
    have hr := run_allocSt w
    unfold Oper.wp execOp
    simp only [ho, Sem.run_bind, hr, Result.andThen_ok, Sem.run_pure]
    exact hK _ _ h

set_option maxRecDepth 100000 in
theorem refNew (w : World) : Calls Tryz.prog 17 #[] w fun e w' => e = .returned (.pointer (some ⟨w.heap.size, 0, none⟩)) ∧ w' = w.alloc (.cells stZ 97) := by
  have h1 := run_buildSt
  have h2 := run_boxSt
  go_enter Tryz.func17, Tryz.ntmps17
  go_wp2
  go_ret
  exact ⟨rfl, rfl⟩

/-- The cells of one state stored into another one's block. -/
theorem Bx.store {w : World} {y : Nat} {c0 c : Nat → Value} {cur : Array Value} (h : Bx w y c0) (hs : cur.size = 3648) (hc : ∀ o, o < 3648 → cur[o]? = some (c o)) :
    w.there y 0 cur.size ∧ Bx (w.setCells y 0 cur.toList) y c ∧ Tch (fun k => k = y) w (w.setCells y 0 cur.toList) := by
  have ht : w.there y 0 cur.size := fun j hj => ⟨by rw [Nat.zero_add, h.cell (by omega)]; rfl, h.free _⟩
  refine ⟨ht, ?_, (Tch.of (setCells_grown y cur.toList 0 w)).mono (fun k _ e => Option.some.inj e)⟩
  obtain ⟨cur0, h1, h2, h3⟩ := h
  obtain ⟨cur', h4, h5⟩ := setCells_block cur.toList 0 w cur0 h1
  refine ⟨cur', h4, by omega, fun o ho => ?_⟩
  have hr := World.rangeAt_setCells_same w y 0 cur.toList (by simpa using ht) o (c o) (by simpa using hc o ho)
  rw [Nat.zero_add] at hr
  simpa [World.cell?, h4] using hr
theorem bx_one {w : World} {O : Nat → Prop} {x : Nat} {a : Ab} {c : Nat → Value} {lv : K3 → Value} {cur : Array Value} (hS : ∀ κ, InK κ → SpOK c κ (a.V κ) (a.L κ) (a.D κ) (lv κ)) (hR : ∀ κ, InK κ → RowI w (lv κ) (a.L κ) ∧ ∀ j, (lv κ).ownBlock = some j → O j ∧ j ≠ x) (hs : cur.size = 3648) (hc : ∀ o, o < 3648 → cur[o]? = some (c o)) :
    cur.all (·.oneCell') = true := by
  refine Array.all_eq_true_iff_forall_mem.2 (fun v hv => ?_)
  obtain ⟨o, ho, rfl⟩ := Array.mem_iff_getElem.1 hv
  have h1 := hc o (by omega)
  rw [Array.getElem?_eq_getElem ho] at h1
  rw [Option.some.inj h1]
  obtain ⟨κ, t, hκ, ht, rfl⟩ := spot_of (show o < 3648 by omega)
  exact (hS κ hκ).one (rowI_one (hR κ hκ).1) ht
end Go.Proofs.YtiofkcmdgijjoaaGreat
