/- The document's state: a list cleared, a list with one number more. -/
import Derived.Test.YtgglokfpafbmeaaGreatRefO
import Derived.Deep.RegionLaw
namespace Go.Proofs.YtgglokfpafbmeaaGreat
open Go.RowKit Go.MapKept Go.ChangeMaps

set_option maxRecDepth 100000 in
set_option maxHeartbeats 2000000 in
theorem one_4 (x g n i : Nat) (f v : Int) (c : Nat → Value) (w : World) (h : Bx w x c) (hg : g < 4) (hn : n < 2) (hi : i < 24) :
    Calls Tryz.prog 58 #[.pointer (some ⟨x, 0, none⟩), .agg #[.int .i64 4, .int .i64 (g : Int), .int .i64 (n : Int), .int .i64 (i : Int), .int .i64 f, .int .i64 v]] w fun e w' => e = .returned (.bool true) ∧ Bx w' x (updC c (g * 912 + n * 456 + i * 19 + 2) (.slice none 0 0)) ∧ Tch (fun k => k = x) w w' := by
  obtain ⟨p, hp⟩ : ∃ p, g * 912 + n * 456 + i * 19 = p := ⟨_, rfl⟩
  rw [hp]
  have hpl : p + 19 ≤ 3648 := by omega
  have hb := below_alloc w (.cells #[.int .i64 4, .int .i64 (g : Int), .int .i64 (n : Int), .int .i64 (i : Int), .int .i64 f, .int .i64 v] 61) w.heap.size (Nat.le_refl _)
  have hbx := heap_alloc_new w (.cells #[.int .i64 4, .int .i64 (g : Int), .int .i64 (n : Int), .int .i64 (i : Int), .int .i64 f, .int .i64 v] 61)
  have hB : Bx (w.alloc (.cells #[.int .i64 4, .int .i64 (g : Int), .int .i64 (n : Int), .int .i64 (i : Int), .int .i64 f, .int .i64 v] 61)) x c := h.at (hb.block _ h.lt)
  have hqx : w.heap.size ≠ x := by have := h.lt; omega
  have HBE := hide (Below.tch (S := fun k => k = x) hb)
  clear h hb
  go_enter Tryz.func58, Tryz.ntmps58
  go_wp2
  generalize w.alloc (.cells #[.int .i64 4, .int .i64 (g : Int), .int .i64 (n : Int), .int .i64 (i : Int), .int .i64 f, .int .i64 v] 61) = W at *
  generalize w.heap.size = q at *
  have hm := mt_cells (m := ⟨4, g, n, i, f, v⟩) hbx
  simp only at hm
  have s0 : W.drew.cell? ⟨q, 1, none⟩ = some (.int .i64 (g : Int)) ∧ W.drew.cell? ⟨q, 2, none⟩ = some (.int .i64 (n : Int)) ∧ W.drew.cell? ⟨q, 3, none⟩ = some (.int .i64 (i : Int)) := ⟨hm.2.1, hm.2.2.1, hm.2.2.2.1⟩
  have hgi : (0 : Int) ≤ (g : Int) ∧ (g : Int) < 4 := by omega
  have hni : (0 : Int) ≤ (n : Int) ∧ (n : Int) < 2 := by omega
  have hii : (0 : Int) ≤ (i : Int) ∧ (i : Int) < 24 := by omega
  obtain ⟨g0, g1⟩ := hgi
  obtain ⟨n0, n1⟩ := hni
  obtain ⟨i0, i1⟩ := hii
  have hcA := hB.cell (o := p + 2) (by omega)
  have hfA := hB.free (p + 2)
  have H2 := hide (hB.set (p := p + 2) (by omega) (.slice none 0 0))
  clear hB hbx
  go_region_held3 (fun w' => w'.cell? ⟨q, 1, none⟩ = some (.int .i64 (g : Int)) ∧ w'.cell? ⟨q, 2, none⟩ = some (.int .i64 (n : Int)) ∧ w'.cell? ⟨q, 3, none⟩ = some (.int .i64 (i : Int))) (with_reducible exact s0) (fail)
  all_goals
    obtain ⟨m0, m1, m2, m3, m4, m5⟩ := hm
    clear s0 m1 m2 m3
    go_wp2
    go_ret
    exact ⟨rfl, H2.out.1.at rfl, tch_same (HBE.out.trans H2.out.2) rfl rfl rfl rfl⟩

/-- Two appends and a number between, in either order: what comes of it. -/
theorem app_two (W : World) (la : Option Addr) (lc : Nat) (L : List Int) (v : Int) (hr : Rd W la L.length lc L) (hl : L.length ≤ 1000) :
    ∃ v1 W1 ao2 c2 W2, (∀ ty, (Builtin.append_ #[29, 29] ty #[.slice none 0 0, .slice la L.length lc]).run Tryz.prog W = .ok v1 W1) ∧
      (∀ ty, (Builtin.append_ #[29, 29] ty #[v1, .slice (some ⟨W1.heap.size, 0, none⟩) 1 1]).run Tryz.prog (W1.alloc (.cells #[.int .i64 v] 2)) = .ok (.slice ao2 (L.length + 1) c2) W2) ∧
      Below W.heap.size W W1 ∧ Below W.heap.size W W2 ∧ RowI W2 (.slice ao2 (L.length + 1) c2) (L ++ [v]) ∧ (∀ j, (Value.slice ao2 (L.length + 1) c2).ownBlock = some j → W.heap.size ≤ j) := by
  obtain ⟨v1, W1, r1, o1, g1, p1⟩ := run_appI W (.slice none 0 0) [] (World.ownsRow_nil _ _ _ _) la L.length lc L hr (by simp; omega)
  have b1 : Below W.heap.size W W1 := (Below.refl _ _).grown g1 (Nat.le_refl _) (fun k hk => by cases hk)
  have q1 : ∀ j, v1.ownBlock = some j → W.heap.size ≤ j := fun j hj => by
    rcases p1 with e | e
    · rw [e] at hj; cases hj
    · rw [e] at hj; cases hj; exact Nat.le_refl _
  rw [List.nil_append] at o1
  have bA := below_alloc W1 (.cells #[.int .i64 v] 2) W1.heap.size (Nat.le_refl _)
  obtain ⟨v2, W2, r2, o2, g2, p2⟩ := run_appI (W1.alloc (.cells #[.int .i64 v] 2)) v1 L (RowO.later o1 bA) (some ⟨W1.heap.size, 0, none⟩) 1 1 [v] (rd_one v W1) (by omega)
  have b2 := b1.trans (bA.mono b1.size)
  obtain ⟨ao, cp, e, _⟩ := RowI.slice o2
  have el : (L ++ [v]).length = L.length + 1 := by simp
  rw [el] at e
  subst e
  refine ⟨v1, W1, ao, cp, W2, r1, r2, b1, b2.grown g2 b2.size q1, o2, fun j hj => ?_⟩
  rcases p2 with e | e
  · exact q1 j (by rw [← e]; exact hj)
  · rw [e] at hj
    cases hj
    exact b2.size
theorem app_two' (W : World) (la : Option Addr) (lc : Nat) (L : List Int) (v : Int) (hr : Rd W la L.length lc L) (hl : L.length ≤ 1000) :
    ∃ v1 W1 ao2 c2 W2, (∀ ty, (Builtin.append_ #[29, 29] ty #[.slice none 0 0, .slice la L.length lc]).run Tryz.prog (W.alloc (.cells #[.int .i64 v] 2)) = .ok v1 W1) ∧
      (∀ ty, (Builtin.append_ #[29, 29] ty #[v1, .slice (some ⟨W.heap.size, 0, none⟩) 1 1]).run Tryz.prog W1 = .ok (.slice ao2 (L.length + 1) c2) W2) ∧
      Below W.heap.size W W1 ∧ Below W.heap.size W W2 ∧ RowI W2 (.slice ao2 (L.length + 1) c2) (L ++ [v]) ∧ (∀ j, (Value.slice ao2 (L.length + 1) c2).ownBlock = some j → W.heap.size ≤ j) := by
  have bA := below_alloc W (.cells #[.int .i64 v] 2) W.heap.size (Nat.le_refl _)
  obtain ⟨v1, W1, r1, o1, g1, p1⟩ := run_appI (W.alloc (.cells #[.int .i64 v] 2)) (.slice none 0 0) [] (World.ownsRow_nil _ _ _ _) la L.length lc L (hr.later bA) (by simp; omega)
  have b1 : Below (W.alloc (.cells #[.int .i64 v] 2)).heap.size (W.alloc (.cells #[.int .i64 v] 2)) W1 := (Below.refl _ _).grown g1 (Nat.le_refl _) (fun k hk => by cases hk)
  have q1 : ∀ j, v1.ownBlock = some j → W.heap.size ≤ j := fun j hj => by
    rcases p1 with e | e
    · rw [e] at hj; cases hj
    · rw [e] at hj; cases hj; exact bA.size
  rw [List.nil_append] at o1
  obtain ⟨v2, W2, r2, o2, g2, p2⟩ := run_appI W1 v1 L o1 (some ⟨W.heap.size, 0, none⟩) 1 1 [v] ((rd_one v W).later b1) (by omega)
  have b2 := bA.trans (b1.mono bA.size)
  obtain ⟨ao, cp, e, _⟩ := RowI.slice o2
  have el : (L ++ [v]).length = L.length + 1 := by simp
  rw [el] at e
  subst e
  refine ⟨v1, W1, ao, cp, W2, r1, r2, b2, b2.grown g2 b2.size q1, o2, fun j hj => ?_⟩
  rcases p2 with e | e
  · exact q1 j (by rw [← e]; exact hj)
  · rw [e] at hj
    cases hj
    exact b2.size

theorem step_ran_at {w w' : World} (w0 : World) {ops : Array Oper} {o : Oper} {a : Act} {K : Act → World → Prop} {Q : Exit → Act → World → Prop} {E : Prop} (hgd : o.guard = none) (s x : Operand) (t t' : TypeId)
    (ho : o.op = .call { callee := .builtin .append, args := #[s, x], argTypes := #[t, t'] }) (v v2 v' : Value) (hw : w = w0) (hs : a.eval s = v) (hx : a.eval x = v2)
    (hrun : ∀ ty, (Builtin.append_ #[t, t'] ty #[v, v2]).run Tryz.prog w0 = .ok v' w') (h : K (a.put o.dst v') w') :
    if Region.wanted o (yielded ops a.tmps) = true then Oper.wp Tryz.prog o a w K Q else E := by
  subst hw
  exact step_ran hgd s x t t' ho v v2 v' hs hx hrun h

set_option maxRecDepth 100000 in
set_option maxHeartbeats 8000000 in
theorem one_3f (x g n i : Nat) (f v : Int) (c : Nat → Value) (w : World) (h : Bx w x c) (hg : g < 4) (hn : n < 2) (hi : i < 24) (la : Option Addr) (lc : Nat) (L : List Int) (hc : c (g * 912 + n * 456 + i * 19 + 2) = .slice la L.length lc) (hl : 100 ≤ L.length) :
    Calls Tryz.prog 58 #[.pointer (some ⟨x, 0, none⟩), .agg #[.int .i64 3, .int .i64 (g : Int), .int .i64 (n : Int), .int .i64 (i : Int), .int .i64 f, .int .i64 v]] w fun e w' => e = .returned (.bool false) ∧ Below w.heap.size w w' := by
  obtain ⟨p, hp⟩ : ∃ p, g * 912 + n * 456 + i * 19 = p := ⟨_, rfl⟩
  rw [hp] at hc
  have hpl : p + 19 ≤ 3648 := by omega
  have hb := below_alloc w (.cells #[.int .i64 3, .int .i64 (g : Int), .int .i64 (n : Int), .int .i64 (i : Int), .int .i64 f, .int .i64 v] 61) w.heap.size (Nat.le_refl _)
  have hbx := heap_alloc_new w (.cells #[.int .i64 3, .int .i64 (g : Int), .int .i64 (n : Int), .int .i64 (i : Int), .int .i64 f, .int .i64 v] 61)
  have hB : Bx (w.alloc (.cells #[.int .i64 3, .int .i64 (g : Int), .int .i64 (n : Int), .int .i64 (i : Int), .int .i64 f, .int .i64 v] 61)) x c := h.at (hb.block _ h.lt)
  have HBE := hide hb
  clear h hb
  go_enter Tryz.func58, Tryz.ntmps58
  go_wp2
  generalize w.alloc (.cells #[.int .i64 3, .int .i64 (g : Int), .int .i64 (n : Int), .int .i64 (i : Int), .int .i64 f, .int .i64 v] 61) = W at *
  generalize hqq : w.heap.size = q at *
  have hm := mt_cells (m := ⟨3, g, n, i, f, v⟩) hbx
  simp only at hm
  have s0 : W.drew.cell? ⟨q, 1, none⟩ = some (.int .i64 (g : Int)) ∧ W.drew.cell? ⟨q, 2, none⟩ = some (.int .i64 (n : Int)) ∧ W.drew.cell? ⟨q, 3, none⟩ = some (.int .i64 (i : Int)) := ⟨hm.2.1, hm.2.2.1, hm.2.2.2.1⟩
  have hgi : (0 : Int) ≤ (g : Int) ∧ (g : Int) < 4 := by omega
  have hni : (0 : Int) ≤ (n : Int) ∧ (n : Int) < 2 := by omega
  have hii : (0 : Int) ≤ (i : Int) ∧ (i : Int) < 24 := by omega
  obtain ⟨g0, g1⟩ := hgi
  obtain ⟨n0, n1⟩ := hni
  obtain ⟨i0, i1⟩ := hii
  have hcA := hB.cell (o := p + 2) (by omega)
  rw [hc] at hcA
  clear hB hbx hc
  go_region_held3 (fun w' => w'.cell? ⟨q, 1, none⟩ = some (.int .i64 (g : Int)) ∧ w'.cell? ⟨q, 2, none⟩ = some (.int .i64 (n : Int)) ∧ w'.cell? ⟨q, 3, none⟩ = some (.int .i64 (i : Int))) (with_reducible exact s0) (fail)
  all_goals
    obtain ⟨m0, m1, m2, m3, m4, m5⟩ := hm
    clear s0 m1 m2 m3 m4 m5
    have h1 : (100 : Int) ≤ (L.length : Int) := by omega
    have hqs : q ≤ W.heap.size := by rw [← hqq]; exact HBE.out.size
    have HF : Hid (Below q w W.drew) := HBE.out.trans ((Below.refl W.heap.size W).drew.mono hqs)
    go_wp2
    go_ret
    exact ⟨rfl, by rw [hqq]; exact HF.out⟩

set_option maxRecDepth 100000 in
set_option maxHeartbeats 8000000 in
theorem one_3 (x g n i : Nat) (f v : Int) (c : Nat → Value) (w : World) (h : Bx w x c) (hg : g < 4) (hn : n < 2) (hi : i < 24) (la : Option Addr) (lc : Nat) (L : List Int) (hc : c (g * 912 + n * 456 + i * 19 + 2) = .slice la L.length lc) (hr : Rd w la L.length lc L) (hl : L.length < 100) :
    Calls Tryz.prog 58 #[.pointer (some ⟨x, 0, none⟩), .agg #[.int .i64 3, .int .i64 (g : Int), .int .i64 (n : Int), .int .i64 (i : Int), .int .i64 f, .int .i64 v]] w fun e w' => e = .returned (.bool true) ∧ ∃ l', Bx w' x (updC c (g * 912 + n * 456 + i * 19 + 2) l') ∧ Tch (fun k => k = x) w w' ∧ RowI w' l' (L ++ [v]) ∧ ∀ j, l'.ownBlock = some j → w.heap.size ≤ j := by
  obtain ⟨p, hp⟩ : ∃ p, g * 912 + n * 456 + i * 19 = p := ⟨_, rfl⟩
  rw [hp] at hc ⊢
  have hpl : p + 19 ≤ 3648 := by omega
  have hb := below_alloc w (.cells #[.int .i64 3, .int .i64 (g : Int), .int .i64 (n : Int), .int .i64 (i : Int), .int .i64 f, .int .i64 v] 61) w.heap.size (Nat.le_refl _)
  have hbx := heap_alloc_new w (.cells #[.int .i64 3, .int .i64 (g : Int), .int .i64 (n : Int), .int .i64 (i : Int), .int .i64 f, .int .i64 v] 61)
  have hB : Bx (w.alloc (.cells #[.int .i64 3, .int .i64 (g : Int), .int .i64 (n : Int), .int .i64 (i : Int), .int .i64 f, .int .i64 v] 61)) x c := h.at (hb.block _ h.lt)
  have hqx : w.heap.size ≠ x := by have := h.lt; omega
  have hrW := hr.later hb
  have HBE := hide hb
  have hxl := h.lt
  clear h hb hr
  go_enter Tryz.func58, Tryz.ntmps58
  go_wp2
  generalize w.alloc (.cells #[.int .i64 3, .int .i64 (g : Int), .int .i64 (n : Int), .int .i64 (i : Int), .int .i64 f, .int .i64 v] 61) = W at *
  generalize hqq : w.heap.size = q at *
  have hm := mt_cells (m := ⟨3, g, n, i, f, v⟩) hbx
  simp only at hm
  have s0 : W.drew.cell? ⟨q, 1, none⟩ = some (.int .i64 (g : Int)) ∧ W.drew.cell? ⟨q, 2, none⟩ = some (.int .i64 (n : Int)) ∧ W.drew.cell? ⟨q, 3, none⟩ = some (.int .i64 (i : Int)) := ⟨hm.2.1, hm.2.2.1, hm.2.2.2.1⟩
  have hgi : (0 : Int) ≤ (g : Int) ∧ (g : Int) < 4 := by omega
  have hni : (0 : Int) ≤ (n : Int) ∧ (n : Int) < 2 := by omega
  have hii : (0 : Int) ≤ (i : Int) ∧ (i : Int) < 24 := by omega
  obtain ⟨g0, g1⟩ := hgi
  obtain ⟨n0, n1⟩ := hni
  obtain ⟨i0, i1⟩ := hii
  have hcA := hB.cell (o := p + 2) (by omega)
  rw [hc] at hcA
  have HB := hide hB
  have HR := hide hrW
  clear hB hbx hrW hc
  go_region_held3 (fun w' => w'.cell? ⟨q, 1, none⟩ = some (.int .i64 (g : Int)) ∧ w'.cell? ⟨q, 2, none⟩ = some (.int .i64 (n : Int)) ∧ w'.cell? ⟨q, 3, none⟩ = some (.int .i64 (i : Int))) (with_reducible exact s0) (fail)
  all_goals
    obtain ⟨m0, m1, m2, m3, m4, m5⟩ := hm
    clear s0 m1 m2 m3 m4
    have h1 : ¬ (100 : Int) ≤ (L.length : Int) := by omega
    have HB2 := hide (HB.out.at (w' := W.drew.drew) rfl)
    have HRD := hide ((HR.out.later (Below.refl _ _).drew).later (Below.refl _ _).drew)
    obtain ⟨vA1, WA1, aA, cA, WA2, rA1, rA2, bA1, bA, oA, jA⟩ := app_two W.drew.drew la lc L v HRD.out (by omega)
    obtain ⟨vB1, WB1, aB, cB, WB2, rB1, rB2, bB1, bB, oB, jB⟩ := app_two' W.drew.drew la lc L v HRD.out (by omega)
    have bAA : Below W.drew.drew.heap.size W.drew.drew (WA1.alloc (.cells #[.int .i64 v] 2)) := bA1.trans ((below_alloc WA1 (.cells #[.int .i64 v] 2) _ (Nat.le_refl _)).mono bA1.size)
    have bBA : Below W.drew.drew.heap.size W.drew.drew (W.alloc (.cells #[.int .i64 v] 2)).drew.drew := below_alloc W.drew.drew (.cells #[.int .i64 v] 2) _ (Nat.le_refl _)
    have y5 : ∀ W', Below W.drew.drew.heap.size W.drew.drew W' → W'.cell? ⟨q, 5, none⟩ = some (.int .i64 v) := fun W' hb => same_cell hb m5
    have x2 : ∀ W', Below W.drew.drew.heap.size W.drew.drew W' → W'.cell? ⟨x, p + 2, none⟩ = some (.slice la L.length lc) := fun W' hb => same_cell hb hcA
    have f2 : ∀ W', Below W.drew.drew.heap.size W.drew.drew W' → Bx W' x c := fun W' hb => HB2.out.at (hb.block _ HB2.out.lt)
    have yA1 := y5 _ bA1
    have yAA := y5 _ bAA
    have yB1 := y5 _ bB1
    have yBA := y5 _ bBA
    have xA1 := x2 _ bA1
    have xAA := x2 _ bAA
    have xB1 := x2 _ bB1
    have xBA := x2 _ bBA
    have xA2 := x2 _ bA
    have xB2 := x2 _ bB
    have fA2 := (f2 _ bA).free (p + 2)
    have fB2 := (f2 _ bB).free (p + 2)
    have RA1 := hide rA1
    have RA2 := hide rA2
    have RB1 := hide rB1
    have RB2 := hide rB2
    have hqs : q ≤ W.heap.size := by rw [← hqq]; exact HBE.out.size
    have HD : Hid (Below w.heap.size w W.drew.drew) := by rw [hqq]; exact (HBE.out.trans ((Below.refl W.heap.size W).drew.mono hqs)).trans ((Below.refl W.drew.heap.size W.drew).drew.mono hqs)
    have HEA : Hid (Bx (WA2.setCell ⟨x, p + 2, none⟩ (.slice aA (L.length + 1) cA)) x (updC c (p + 2) (.slice aA (L.length + 1) cA)) ∧ Tch (fun k => k = x) w (WA2.setCell ⟨x, p + 2, none⟩ (.slice aA (L.length + 1) cA)) ∧ RowI (WA2.setCell ⟨x, p + 2, none⟩ (.slice aA (L.length + 1) cA)) (.slice aA (L.length + 1) cA) (L ++ [v]) ∧ ∀ j, (Value.slice aA (L.length + 1) cA).ownBlock = some j → w.heap.size ≤ j) := by
      obtain ⟨k1, k2⟩ := (f2 _ bA).set (p := p + 2) (by omega) (.slice aA (L.length + 1) cA)
      have hj : ∀ j, (Value.slice aA (L.length + 1) cA).ownBlock = some j → W.heap.size ≤ j := jA
      have hw : w.heap.size ≤ W.heap.size := by rw [hqq]; exact hqs
      exact ⟨k1, (Below.tch (HD.out.trans (bA.mono HD.out.size))).trans k2, RowO.tch k2 oA (fun j h e => by have := hj j h; have := HB.out.lt; omega), fun j h => Nat.le_trans hw (hj j h)⟩
    have HEB : Hid (Bx (WB2.setCell ⟨x, p + 2, none⟩ (.slice aB (L.length + 1) cB)) x (updC c (p + 2) (.slice aB (L.length + 1) cB)) ∧ Tch (fun k => k = x) w (WB2.setCell ⟨x, p + 2, none⟩ (.slice aB (L.length + 1) cB)) ∧ RowI (WB2.setCell ⟨x, p + 2, none⟩ (.slice aB (L.length + 1) cB)) (.slice aB (L.length + 1) cB) (L ++ [v]) ∧ ∀ j, (Value.slice aB (L.length + 1) cB).ownBlock = some j → w.heap.size ≤ j) := by
      obtain ⟨k1, k2⟩ := (f2 _ bB).set (p := p + 2) (by omega) (.slice aB (L.length + 1) cB)
      have hj : ∀ j, (Value.slice aB (L.length + 1) cB).ownBlock = some j → W.heap.size ≤ j := jB
      have hw : w.heap.size ≤ W.heap.size := by rw [hqq]; exact hqs
      exact ⟨k1, (Below.tch (HD.out.trans (bB.mono HD.out.size))).trans k2, RowO.tch k2 oB (fun j h e => by have := hj j h; have := HB.out.lt; omega), fun j h => Nat.le_trans hw (hj j h)⟩
    clear rA1 rA2 rB1 rB2 y5 x2 f2 bA1 bA bB1 bB bAA bBA oA oB jA jB HB HB2 HR HRD HBE HD
    go_wp2
    go_region_law (first | (refine step_ran_at (W.drew.drew) rfl _ _ _ _ rfl (.slice none 0 0) (.slice la L.length lc) (vA1) ?_ ?_ ?_ RA1.out ?_; (with_reducible rfl); rfl; rfl) | (refine step_ran_at (WA1.alloc (.cells #[.int .i64 v] 2)) rfl _ _ _ _ rfl (vA1) (.slice (some ⟨WA1.heap.size, 0, none⟩) 1 1) (.slice aA (L.length + 1) cA) ?_ ?_ ?_ RA2.out ?_; (with_reducible rfl); rfl; rfl) | (refine step_ran_at ((W.alloc (.cells #[.int .i64 v] 2)).drew.drew) rfl _ _ _ _ rfl (.slice none 0 0) (.slice la L.length lc) (vB1) ?_ ?_ ?_ RB1.out ?_; (with_reducible rfl); rfl; rfl) | (refine step_ran_at (WB1) rfl _ _ _ _ rfl (vB1) (.slice (some ⟨W.drew.drew.heap.size, 0, none⟩) 1 1) (.slice aB (L.length + 1) cB) ?_ ?_ ?_ RB2.out ?_; (with_reducible rfl); rfl; rfl))
    all_goals
      go_wp2
      go_ret
      first
        | exact ⟨rfl, _, HEA.out⟩
        | exact ⟨rfl, _, HEB.out⟩

end Go.Proofs.YtgglokfpafbmeaaGreat
