/- Fields cloned; package dict: New, Dict, DictKeys. -/
import Derived.Test.YtkchfbigkecodaaGreatDct4
import Derived.Test.YtkchfbigkecodaaGreatKeySD
import Derived.Test.YtkchfbigkecodaaGreatLst4
namespace Go.Proofs.YtkchfbigkecodaaGreat
open Go.RowKit Go.MapKept Go.ChangeMaps

abbrev Di := Rm 98 56 2 fdC
abbrev DiS := RmS 98 56 2 fdC
theorem zeroFs (w : World) : (zeroValue 53).run Tryz.prog w = .ok (.slice none 0 0) w := by
  have hz : Tryz.t53.zero = some (.slice none 0 0) := by kernel_rfl
  simp [zeroValue, hz]
theorem dicts_ne : (98 : TypeId) ≠ 56 := by decide

set_option maxRecDepth 100000 in
theorem dictNew (w : World) : Calls Tryz.prog 27 #[] w fun e w' => e = .returned (.pointer (some ⟨w.heap.size, 0, none⟩)) ∧ w' = w.alloc (rmObj 98 none) := by
  go_enter Tryz.func27, Tryz.ntmps27
  go_wp2
  go_ret
  exact ⟨rfl, rfl⟩

/-- The look at a key: its row. -/
theorem Di.look {w : World} {O : Nat → Prop} {g N : Nat} {f : K3 → List (Int × Int)} {mo : Option Nat} {l : List (Ent K3)} {c : Nat} (h : Di w O g f N mo l c) (k : K3) :
    (Instr.lookup 96 (.map mo) (k3E k) false).run Tryz.prog w = .ok ((atE l k).getD (.slice none 0 0)) w := by
  cases mo with
  | none =>
    have := look_nilE k3Keyd undD (zeroFs w) k false
    rw [h.nomap rfl, atE_nil]
    exact this
  | some r => exact (h.made r rfl).2.2.look k3Keyd undD (zeroFs w) k false

/-- Fields that may be read. -/
structure RdF (w : World) (ao : Option Addr) (m c : Nat) (z : List (Int × Int)) : Prop where
  len : z.length = m
  nil : ao = none → m = 0 ∧ c = 0
  cells : ∀ a, ao = some a → ∀ j u, (z.flatMap fdC)[j]? = some u → w.cell? (a.add j) = some u
  le : m ≤ c
theorem RdF.later {w w' : World} {ao : Option Addr} {m c : Nat} {z : List (Int × Int)} (h : RdF w ao m c z) (hb : Below w.heap.size w w') : RdF w' ao m c z := by
  refine ⟨h.len, h.nil, fun a ha j u hj => ?_, h.le⟩
  have hc := h.cells a ha j u hj
  rw [World.cell?_of_block (hb.block _ (World.block_lt_of_cell? w _ hc))]
  exact hc
theorem RowF.rd {w : World} {v : Value} {z : List (Int × Int)} (h : RowF w v z) : ∃ ao cp, v = .slice ao z.length cp ∧ RdF w ao z.length cp z := by
  rcases h.2 with ⟨rfl, hn⟩ | ⟨g, cap, cur, rfl, _, _, h1, _, _, _⟩
  · have e : z = [] := List.length_eq_zero_iff.1 hn
    subst e
    exact ⟨none, 0, rfl, rfl, fun _ => ⟨rfl, rfl⟩, fun a ha => (by cases ha), Nat.le_refl _⟩
  · refine ⟨_, cap, rfl, rfl, fun e => (by cases e), fun a ha j u hj => ?_, h1⟩
    cases ha
    exact World.ownsRow.cells h (g := g) rfl j u hj

/-- A row of fields made since B. -/
def OwnF (w : World) (B : Nat) (v : Value) (z : List (Int × Int)) : Prop := w.ownsRow B 56 2 v z.length (z.flatMap fdC)
theorem OwnF.row {w : World} {B : Nat} {v : Value} {z : List (Int × Int)} (h : OwnF w B v z) : RowF w v z := row_mono h (Nat.zero_le _)
theorem OwnF.lt {w : World} {B : Nat} {v : Value} {z : List (Int × Int)} (h : OwnF w B v z) : ∀ k, v.ownBlock = some k → B ≤ k ∧ k < w.heap.size := World.ownsRow.lt h

set_option maxRecDepth 100000 in
/-- slices.Clone of fields. -/
theorem cloneF (ao : Option Addr) (m cp : Nat) (z : List (Int × Int)) (w : World) (hr : RdF w ao m cp z) (hm : m ≤ 100000) :
    Calls Tryz.prog 51 #[.slice ao m cp] w fun e w' => ∃ v, e = .returned v ∧ OwnF w' w.heap.size v z ∧ Below w.heap.size w w' := by
  have q29 : ∀ (w : World) (a : Option Addr) (n c n' c' : Nat), (binOp .eql 53 (.slice a n c) (.slice none n' c')).run Tryz.prog w = .ok (.bool a.isNone) w := fun w a n c n' c' => Lib.run_eql_slice_nil w _ _ a n c n' c' Tryz.underlying53
  cases ao with
  | none =>
    obtain ⟨rfl, rfl⟩ := hr.nil rfl
    obtain rfl : z = [] := List.length_eq_zero_iff.1 hr.len
    clear hr
    go_enter Tryz.func51, Tryz.ntmps51
    go_wp2
    go_ret
    exact ⟨_, rfl, World.ownsRow_nil _ _ _ _, Below.refl _ _⟩
  | some ad =>
    have hb := below_alloc w (.cells #[] 56) w.heap.size (Nat.le_refl _)
    have hl := World.ownsRow_lit (base := w.heap.size) (e := 56) (size := 2) w #[] 0 (Nat.le_refl _) (by decide) rfl
    obtain ⟨v', W', hrun, h2, h3, _⟩ := run_appF w.heap.size (w.alloc (.cells #[] 56)) _ [] hl ad m cp z hr.len ((hr.later hb).cells ad rfl) (by simp; omega) (by simp)
    simp only [List.nil_append] at h2
    have H2 : Hid (OwnF W' w.heap.size v' z) := h2
    have H3 := hide (hb.grown h3 hb.size (fun k hk => (World.ownsRow.lt hl k hk).1))
    have HR := hide hrun
    clear h2 h3 hl hb hr hrun
    go_enter Tryz.func51, Tryz.ntmps51
    go_wp2_with (at_builtin; refine wpList_ran rfl (.tmp 5) (.tmp 6) _ _ rfl _ _ v' (by rfl) (by rfl) HR.out ?_)
    go_ret
    exact ⟨_, rfl, H2.out, H3.out⟩

set_option maxRecDepth 100000 in
/-- Dict. -/
theorem dictDict (O : Nat → Prop) (g N : Nat) (f : K3 → List (Int × Int)) (k : K3) (w : World) (h : DiS w O g f N) (hf : (f k).length ≤ 100) :
    Calls Tryz.prog 31 #[.pointer (some ⟨g, 0, none⟩), k3E k] w fun e w' => ∃ v, e = .returned v ∧ OwnF w' w.heap.size v (f k) ∧ Below w.heap.size w w' := by
  have hb := below_alloc w (k3O k) w.heap.size (Nat.le_refl _)
  obtain ⟨mo, l, c, h⟩ := h
  have h1 := h.later hb
  obtain ⟨q0, qf⟩ := rm_cell h1.obj
  have hbx := heap_alloc_new w (k3O k)
  obtain ⟨x0, x1, x2⟩ := cells_three hbx
  have hdr := (Below.refl (w.alloc (k3O k)).heap.size (w.alloc (k3O k))).drew
  have lk : (Instr.lookup 96 (.map mo) (k3E k) false).run Tryz.prog (w.alloc (k3O k)).drew = .ok ((atE l k).getD (.slice none 0 0)) (w.alloc (k3O k)).drew := Di.look (h1.later hdr) k
  have hrow := h1.rowAt k
  generalize (atE l k).getD (.slice none 0 0) = v at lk hrow
  obtain ⟨ao', cp', rfl, hrd⟩ := RowF.rd hrow
  have hC : Calls Tryz.prog 51 #[.slice ao' (f k).length cp'] (w.alloc (k3O k)).drew fun e w' => ∃ v, e = .returned v ∧ OwnF w' w.heap.size v (f k) ∧ Below w.heap.size w w' := by
    have hD := hdr
    refine (cloneF ao' _ cp' (f k) _ (hrd.later hD) (by omega)).mono ?_
    rintro e w' ⟨v, r1, r2, r3⟩
    have hs := (hb.trans (hD.mono hb.size)).size
    exact ⟨v, r1, row_mono r2 hs, (hb.trans (hD.mono hb.size)).trans (r3.mono hs)⟩
  have HC := hide hC
  clear h h1 hbx hb hrow hC hrd hdr
  unfold k3O k3E at *
  go_enter Tryz.func31, Tryz.ntmps31
  go_wp2
  go_region_with (go_at_call 51; (refine HC.out.mono ?_; rintro e W1 ⟨v, rfl, k1, k2⟩; have HK := hide (And.intro k1 k2); clear k1 k2))
  all_goals
    clear lk HC x0 x1 x2 q0 qf
    go_wp2
    go_ret
    exact ⟨_, rfl, HK.out.1, HK.out.2⟩

set_option maxRecDepth 100000 in
/-- DictKeys. -/
theorem dictKeys (O : Nat → Prop) (g N : Nat) (f : K3 → List (Int × Int)) (w : World) (h : DiS w O g f N) (hN : N ≤ 1000) :
    Calls Tryz.prog 30 #[.pointer (some ⟨g, 0, none⟩)] w fun e w' => ∃ v ks, e = .returned v ∧ (∀ k, k ∈ ks ↔ f k ≠ []) ∧ RiseK ks ∧ OwnK w' w.heap.size v ks ∧ Below w.heap.size w w' := by
  obtain ⟨mo, l, c, h⟩ := h
  obtain ⟨q0, _⟩ := rm_cell h.obj
  have HAT := hide h.mem
  cases mo with
  | some r =>
    have HS := hide (sortedD r l c w (h.made r rfl).2.2 (by have := h.len; omega))
    clear h
    go_enter Tryz.func30, Tryz.ntmps30
    go_wp2_with fail
    refine HS.out.mono ?_
    rintro e w1 ⟨v, ks, rfl, k1, k2, k3, k4⟩
    have H1 : Hid (∀ k, k ∈ ks ↔ f k ≠ []) := fun k => k1.mem_iff.trans (HAT.out k)
    have H2 := hide k2
    have H3 := hide k3
    have H4 := hide k4
    clear k1 k2 k3 k4 HS
    go_wp2
    go_ret
    exact ⟨v, ks, rfl, H1.out, H2.out, H3.out, H4.out⟩
  | none =>
    have hl := h.nomap rfl
    subst hl
    clear h
    go_enter Tryz.func30, Tryz.ntmps30
    go_wp2_with fail
    refine (sortedNilD w).mono ?_
    rintro e w1 ⟨v, rfl, k3, k4⟩
    have H3 := hide k3
    have H4 := hide k4
    clear k3 k4
    go_wp2
    go_ret
    exact ⟨v, [], rfl, fun k => by have := HAT.out k; simpa using this, List.Pairwise.nil, H3.out, H4.out⟩
end Go.Proofs.YtkchfbigkecodaaGreat
