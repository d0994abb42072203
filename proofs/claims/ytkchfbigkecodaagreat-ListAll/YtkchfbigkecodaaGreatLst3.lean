/- What package list does: Push, Clear, List. -/
import Derived.Test.YtkchfbigkecodaaGreatLst2
namespace Go.Proofs.YtkchfbigkecodaaGreat
open Go.RowKit Go.MapKept Go.ChangeMaps

/-- The look at a key: its row. -/
theorem Li.look {w : World} {O : Nat → Prop} {g N : Nat} {f : K3 → List Int} {mo : Option Nat} {l : List (Ent K3)} {c : Nat} (h : Li w O g f N mo l c) (k : K3) :
    (Instr.lookup 42 (.map mo) (k3E k) false).run Tryz.prog w = .ok ((atE l k).getD (.slice none 0 0)) w := by
  cases mo with
  | none =>
    have := look_nilE k3Keyd undL (zeroLs w) k false
    rw [h.nomap rfl, atE_nil]
    exact this
  | some r => exact (h.made r rfl).2.2.look k3Keyd undL (zeroLs w) k false

theorem RowI.slice {w : World} {v : Value} {z : List Int} (h : RowI w v z) : ∃ ao cp, v = .slice ao z.length cp ∧ Rd w ao z.length cp z ∧ (ao = none ↔ z = [] ∧ cp = 0 ∧ v = .slice none 0 0) := by
  rcases h.2 with ⟨rfl, hn⟩ | ⟨g, cap, cur, rfl, _, _, h1, _, _, _⟩
  · have e : z = [] := List.length_eq_zero_iff.1 hn
    subst e
    exact ⟨none, 0, rfl, ⟨rfl, fun _ => ⟨rfl, rfl⟩, fun a ha => (by cases ha), Nat.le_refl _⟩, by simp⟩
  · refine ⟨_, cap, rfl, ⟨rfl, fun e => (by cases e), fun a ha j u hj => ?_, h1⟩, by simp⟩
    cases ha
    exact World.ownsRow.cells h (g := g) rfl j u (by rw [flatI]; exact hj)

theorem updR_self {α : Type} (f : K3 → List α) (k : K3) : updR f k (f k) = f := by
  funext b
  unfold updR
  by_cases e : b = k
  · rw [if_pos e, e]
  · rw [if_neg e]

set_option maxRecDepth 100000 in
set_option maxHeartbeats 1600000 in
/-- Push: all are behind the list, if there is room. -/
theorem listPush (O : Nat → Prop) (g N : Nat) (f : K3 → List Int) (k : K3) (ao : Option Addr) (m cp : Nat) (z : List Int) (w : World) (h : LiS w O g f N) (hO : ∀ k, w.heap.size ≤ k → O k) (hr : Rd w ao m cp z) (hf : (f k).length ≤ 100) :
    Calls Tryz.prog 23 #[.pointer (some ⟨g, 0, none⟩), k3E k, .slice ao m cp] w fun e w' => e = .returned (.int .i64 (if (f k).length + m ≤ 100 then 0 else 4)) ∧ LiS w' O g (if (f k).length + m ≤ 100 then updR f k (f k ++ z) else f) (N + 1) ∧ Tch O w w' := by
  have hb := below_alloc w (k3O k) w.heap.size (Nat.le_refl _)
  have HH := hide h
  obtain ⟨mo, l, c, h⟩ := h
  have h1 := h.later hb
  obtain ⟨q0, qf⟩ := rm_cell h1.obj
  have hbx := heap_alloc_new w (k3O k)
  obtain ⟨x0, x1, x2⟩ := cells_three hbx
  have lk : ∀ n, (Instr.lookup 42 (.map mo) (k3E k) false).run Tryz.prog ((w.alloc (k3O k)).drewN n) = .ok ((atE l k).getD (.slice none 0 0)) ((w.alloc (k3O k)).drewN n) := fun n =>
    Li.look (h1.later (below_drewN (Below.refl (w.alloc (k3O k)).heap.size (w.alloc (k3O k))) n)) k
  have hrow := h1.rowAt k
  generalize (atE l k).getD (.slice none 0 0) = v at lk hrow
  obtain ⟨ao', cp', rfl, _, _⟩ := RowI.slice hrow
  have HP : Hid (∀ n, z ≠ [] → (f k).length + m ≤ 100000 → Calls Tryz.prog 44 #[.pointer (some ⟨g, 0, none⟩), k3E k, .slice ao m cp] ((w.alloc (k3O k)).drewN n) fun e w' => e = .returned (.tuple #[]) ∧ LiS w' O g (updR f k (f k ++ z)) (N + 1) ∧ Tch O w w') := fun n hz hl => by
    have hD := hb.trans (below_drewN (Below.refl w.heap.size (w.alloc (k3O k))) n)
    refine (listPut O g N f k ao m cp z _ (HH.out.later hD) (fun j hj => hO j (Nat.le_trans hD.size hj)) (hr.later hD) hz hl).mono ?_
    rintro e w' ⟨r1, r2, r3⟩
    exact ⟨r1, r2, (Below.tch hD).trans r3⟩
  have HN : Hid (∀ n, LiS ((w.alloc (k3O k)).drewN n) O g f (N + 1) ∧ Tch O w ((w.alloc (k3O k)).drewN n)) := fun n => by
    have hD := hb.trans (below_drewN (Below.refl w.heap.size (w.alloc (k3O k))) n)
    exact ⟨(HH.out.later hD).more (by omega), Below.tch hD⟩
  have hm := hr.len
  clear h h1 hbx hb hr hO hrow HH
  unfold k3O k3E at *
  by_cases hroom : (f k).length + m ≤ 100
  · have c1 : ¬ (100 - ((f k).length : Int)) < (m : Int) := by omega
    by_cases hm0 : 0 < m
    · have hz : z ≠ [] := fun e => by rw [e] at hm; simp at hm; omega
      simp only [if_pos hroom]
      go_enter Tryz.func23, Tryz.ntmps23
      go_wp2
      go_quiet (fail)
      go_wp2_with fail
      all_goals first
        | (exfalso; omega)
        | skip
      refine (HP.out nq hz (by omega)).mono ?_
      rintro e w1 ⟨rfl, k1, k2⟩
      have K1 := hide k1
      have K2 := hide k2
      clear k1 k2 HP HN lk x0 x1 x2 q0 qf
      go_wp2
      go_ret
      exact ⟨rfl, K1.out, K2.out⟩
    · obtain rfl : z = [] := List.length_eq_zero_iff.1 (by omega)
      simp only [if_pos hroom, List.append_nil, updR_self]
      clear HP
      go_enter Tryz.func23, Tryz.ntmps23
      go_wp2
      go_quiet (fail)
      go_wp2_with fail
      all_goals first
        | (exfalso; omega)
        | skip
      have HNq := hide (HN.out nq)
      clear HN lk x0 x1 x2 q0 qf
      go_ret
      exact ⟨rfl, HNq.out.1, HNq.out.2⟩
  · have c1 : (100 - ((f k).length : Int)) < (m : Int) := by omega
    simp only [if_neg hroom]
    clear HP
    go_enter Tryz.func23, Tryz.ntmps23
    go_wp2
    go_quiet (fail)
    go_wp2_with fail
    all_goals first
      | (exfalso; omega)
      | skip
    have HNq := hide (HN.out nq)
    clear HN lk x0 x1 x2 q0 qf
    go_ret
    exact ⟨rfl, HNq.out.1, HNq.out.2⟩
end Go.Proofs.YtkchfbigkecodaaGreat
