/- What package list does: Clear, List, ListKeys. -/
import Derived.Test.YtkchfbigkecodaaGreatLst3
import Derived.Test.YtkchfbigkecodaaGreatKeySL
namespace Go.Proofs.YtkchfbigkecodaaGreat
open Go.RowKit Go.MapKept Go.ChangeMaps

theorem del_nil {kt et T : TypeId} (hT : Tryz.prog.underlying T = some (.map kt et)) {K : Type} [DecidableEq K] {E : K → Value} (kd : Keyd E kt) (a : K) (ty : TypeId) (w : World) :
    (Builtin.delete_ #[T, kt] ty #[.map none, E a]).run Tryz.prog w = .ok (.tuple #[]) w := by
  have h1 := fun e => kd.chk e a w
  simp [Builtin.delete_, run_underlying hT, h1]

set_option maxRecDepth 100000 in
set_option maxHeartbeats 1600000 in
/-- Clear. -/
theorem listClear (O : Nat → Prop) (g N : Nat) (f : K3 → List Int) (k : K3) (w : World) (h : LiS w O g f N) :
    Calls Tryz.prog 24 #[.pointer (some ⟨g, 0, none⟩), k3E k] w fun e w' => e = .returned (.int .i64 (f k).length) ∧ LiS w' O g (updR f k []) N ∧ Tch O w w' := by
  have hb := below_alloc w (k3O k) w.heap.size (Nat.le_refl _)
  obtain ⟨mo, l, c, h⟩ := h
  have h1 := h.later hb
  obtain ⟨q0, qf⟩ := rm_cell h1.obj
  have hbx := heap_alloc_new w (k3O k)
  obtain ⟨x0, x1, x2⟩ := cells_three hbx
  have lk : ∀ n, (Instr.lookup 42 (.map mo) (k3E k) false).run Tryz.prog ((w.alloc (k3O k)).drewN n) = .ok ((atE l k).getD (.slice none 0 0)) ((w.alloc (k3O k)).drewN n) := fun n =>
    Li.look (h1.later (below_drewN (Below.refl (w.alloc (k3O k)).heap.size (w.alloc (k3O k))) n)) k
  have hrow := h1.rowAt k
  generalize (atE l k).getD (.slice none 0 0) = v at lk hrow
  obtain ⟨ao', cp', rfl, _, _⟩ := RowI.slice hrow
  have de : ∃ W' : Nat → World, (∀ n ty, (Builtin.delete_ #[42, 28] ty #[.map mo, k3E k]).run Tryz.prog ((w.alloc (k3O k)).drewN (n + 1)) = .ok (.tuple #[]) (W' n)) ∧ (∀ n, LiS (W' n) O g (updR f k []) N ∧ Tch O w (W' n)) := by
    have hD : ∀ n, Below w.heap.size w ((w.alloc (k3O k)).drewN (n + 1)) := fun n => hb.trans (below_drewN (Below.refl w.heap.size (w.alloc (k3O k))) (n + 1))
    cases mo with
    | none =>
      refine ⟨fun n => ((w.alloc (k3O k)).drewN (n + 1)), fun n ty => del_nil undL k3Keyd k ty _, fun n => ⟨?_, Below.tch (hD n)⟩⟩
      have e : updR f k [] = f := by
        funext b
        unfold updR
        by_cases e : b = k
        · rw [if_pos e, h.non b (by rw [h.nomap rfl]; simp)]
        · rw [if_neg e]
      rw [e]
      exact ⟨_, _, _, h.later (hD n)⟩
    | some r =>
      have key : ∀ n, ∃ W', (∀ ty, (Builtin.delete_ #[42, 28] ty #[.map (some r), k3E k]).run Tryz.prog ((w.alloc (k3O k)).drewN (n + 1)) = .ok (.tuple #[]) W') ∧ LiS W' O g (updR f k []) N ∧ Tch O w W' := fun n => by
        obtain ⟨W', a1, a2, a3⟩ := (h.later (hD n)).cut undL k
        exact ⟨W', a1, a2, (Below.tch (hD n)).trans a3⟩
      exact ⟨fun n => (key n).choose, fun n => (key n).choose_spec.1, fun n => (key n).choose_spec.2⟩
  obtain ⟨W', de, hW⟩ := de
  have HW := hide hW
  clear h h1 hbx hb hrow hW
  unfold k3O k3E at *
  go_enter Tryz.func24, Tryz.ntmps24
  go_wp2
  go_quiet (fail)
  go_wp2
  go_region_with (fail)
  all_goals
    have HNq := hide (HW.out nq)
    clear HW lk x0 x1 x2 q0 qf de
    go_wp2
    go_ret
    exact ⟨rfl, HNq.out.1, HNq.out.2⟩

/-- append that is run already. -/
theorem wpList_ran {w w' : World} {ops : Array Oper} {rest : List Oper} {o : Oper} {a : Act} {Q : Exit → Act → World → Prop} (hgd : o.guard = none) (s x : Operand) (t t' : TypeId)
    (ho : o.op = .call { callee := .builtin .append, args := #[s, x], argTypes := #[t, t'] }) (v v2 v' : Value) (hs : a.eval s = v) (hx : a.eval x = v2)
    (hrun : ∀ ty, (Builtin.append_ #[t, t'] ty #[v, v2]).run Tryz.prog w = .ok v' w') (h : wpList Tryz.prog ops Q rest (a.put o.dst v') w') :
    wpList Tryz.prog ops Q (o :: rest) a w := by
  refine wpList_plain hgd fun K hK => ?_
  unfold Oper.wp execOp
  simp only [ho, resolve, invoke, builtin, Sem.run_bind, Sem.run_pure, Result.andThen_ok, List.map_toArray, List.map_cons, List.map_nil, hs, hx, hrun]
  exact hK _ _ h

/-- append to numbers of one's own, made since B. -/
theorem run_appB (B : Nat) (w : World) (v : Value) (l : List Int) (hown : w.ownsRow B 2 1 v l.length (l.flatMap i64C)) (ao : Option Addr) (m c : Nat) (news : List Int) (hr : Rd w ao m c news) (hsz : l.length + m ≤ 1000000) (hB : B ≤ w.heap.size) :
    ∃ v' w', (∀ ty, (Builtin.append_ #[29, 29] ty #[v, .slice ao m c]).run Tryz.prog w = .ok v' w') ∧ w'.ownsRow B 2 1 v' (l ++ news).length ((l ++ news).flatMap i64C) ∧ w.grownBy w' v.ownBlock := by
  obtain ⟨i0, hi, hz0, hz1, hz2⟩ := info_parts infoI
  cases ao with
  | none =>
    obtain ⟨rfl, rfl⟩ := hr.nil rfl
    have e : news = [] := List.length_eq_zero_iff.1 hr.len
    subst e
    exact ⟨v, w, fun ty => run_append_owned_none (P := Tryz.prog) (w := w) B 29 ty 2 i0 1 Tryz.underlying29 hi v l.length (l.flatMap i64C) hown, by simpa using hown, ⟨rfl, rfl, rfl, Nat.le_refl _, fun _ _ _ => rfl⟩⟩
  | some ad =>
    have key := fun ty => run_append_own_at (P := Tryz.prog) w B 29 ty 2 i0 (.int .i64 0) 1 8 Tryz.underlying29 hi hz0 hz1 hz2 rfl (by decide) v l.length (l.flatMap i64C) hown ad m c (news.map (Value.int .i64)) (by simp [hr.len]) (hr.cells ad rfl) (ints_oneCell .i64 news) (by simp only [maxLen]; omega) (by omega) hB
    obtain ⟨v', w', hrun, h2, h3, _, _⟩ := key 0
    refine ⟨v', w', fun ty => hrun, ?_, h3⟩
    rw [List.flatMap_append, flatI news, List.length_append, hr.len]
    exact h2

theorem row_mono {w : World} {B B' : Nat} {e : TypeId} {sz : Nat} {v : Value} {n : Nat} {xs : List Value} (h : w.ownsRow B e sz v n xs) (hB : B' ≤ B) : w.ownsRow B' e sz v n xs := by
  obtain ⟨h1, h2⟩ := h
  refine ⟨h1, ?_⟩
  rcases h2 with h2 | ⟨g, cap, cur, h3, h4, h5⟩
  · exact Or.inl h2
  · exact Or.inr ⟨g, cap, cur, h3, Nat.le_trans hB h4, h5⟩

/-- A row of numbers made since B. -/
def OwnI (w : World) (B : Nat) (v : Value) (z : List Int) : Prop := w.ownsRow B 2 1 v z.length (z.flatMap i64C)
theorem OwnI.row {w : World} {B : Nat} {v : Value} {z : List Int} (h : OwnI w B v z) : RowI w v z := row_mono h (Nat.zero_le _)
theorem OwnI.lt {w : World} {B : Nat} {v : Value} {z : List Int} (h : OwnI w B v z) : ∀ k, v.ownBlock = some k → B ≤ k ∧ k < w.heap.size := World.ownsRow.lt h

set_option maxRecDepth 100000 in
/-- slices.Clone of numbers. -/
theorem cloneI (ao : Option Addr) (m cp : Nat) (z : List Int) (w : World) (hr : Rd w ao m cp z) (hm : m ≤ 100000) :
    Calls Tryz.prog 46 #[.slice ao m cp] w fun e w' => ∃ v, e = .returned v ∧ OwnI w' w.heap.size v z ∧ Below w.heap.size w w' := by
  have q29 : ∀ (w : World) (a : Option Addr) (n c n' c' : Nat), (binOp .eql 29 (.slice a n c) (.slice none n' c')).run Tryz.prog w = .ok (.bool a.isNone) w := fun w a n c n' c' => Lib.run_eql_slice_nil w _ _ a n c n' c' Tryz.underlying29
  cases ao with
  | none =>
    obtain ⟨rfl, rfl⟩ := hr.nil rfl
    obtain rfl : z = [] := List.length_eq_zero_iff.1 hr.len
    clear hr
    go_enter Tryz.func46, Tryz.ntmps46
    go_wp2
    go_ret
    exact ⟨_, rfl, World.ownsRow_nil _ _ _ _, Below.refl _ _⟩
  | some ad =>
    have hb := below_alloc w (.cells #[] 2) w.heap.size (Nat.le_refl _)
    have hl := World.ownsRow_lit (base := w.heap.size) (e := 2) (size := 1) w #[] 0 (Nat.le_refl _) (by decide) rfl
    obtain ⟨v', W', hrun, h2, h3⟩ := run_appB w.heap.size (w.alloc (.cells #[] 2)) _ [] hl (some ad) m cp z (hr.later hb) (by simp; omega) (by simp)
    simp only [List.nil_append] at h2
    have H2 : Hid (OwnI W' w.heap.size v' z) := h2
    have H3 := hide (hb.grown h3 hb.size (fun k hk => (World.ownsRow.lt hl k hk).1))
    have HR := hide hrun
    clear h2 h3 hl hb hr hrun
    go_enter Tryz.func46, Tryz.ntmps46
    go_wp2_with (at_builtin; refine wpList_ran rfl (.tmp 5) (.tmp 6) _ _ rfl _ _ v' (by rfl) (by rfl) HR.out ?_)
    go_ret
    exact ⟨_, rfl, H2.out, H3.out⟩

set_option maxRecDepth 100000 in
/-- List. -/
theorem listList (O : Nat → Prop) (g N : Nat) (f : K3 → List Int) (k : K3) (w : World) (h : LiS w O g f N) (hf : (f k).length ≤ 100) :
    Calls Tryz.prog 26 #[.pointer (some ⟨g, 0, none⟩), k3E k] w fun e w' => ∃ v, e = .returned v ∧ OwnI w' w.heap.size v (f k) ∧ Below w.heap.size w w' := by
  have hb := below_alloc w (k3O k) w.heap.size (Nat.le_refl _)
  obtain ⟨mo, l, c, h⟩ := h
  have h1 := h.later hb
  obtain ⟨q0, qf⟩ := rm_cell h1.obj
  have hbx := heap_alloc_new w (k3O k)
  obtain ⟨x0, x1, x2⟩ := cells_three hbx
  have hdr := (Below.refl (w.alloc (k3O k)).heap.size (w.alloc (k3O k))).drew
  have lk : (Instr.lookup 42 (.map mo) (k3E k) false).run Tryz.prog (w.alloc (k3O k)).drew = .ok ((atE l k).getD (.slice none 0 0)) (w.alloc (k3O k)).drew := Li.look (h1.later hdr) k
  have hrow := h1.rowAt k
  generalize (atE l k).getD (.slice none 0 0) = v at lk hrow
  obtain ⟨ao', cp', rfl, hrd, _⟩ := RowI.slice hrow
  have hC : Calls Tryz.prog 46 #[.slice ao' (f k).length cp'] (w.alloc (k3O k)).drew fun e w' => ∃ v, e = .returned v ∧ OwnI w' w.heap.size v (f k) ∧ Below w.heap.size w w' := by
    have hD := hdr
    refine (cloneI ao' _ cp' (f k) _ (hrd.later hD) (by omega)).mono ?_
    rintro e w' ⟨v, r1, r2, r3⟩
    have hs := (hb.trans (hD.mono hb.size)).size
    exact ⟨v, r1, row_mono r2 hs, (hb.trans (hD.mono hb.size)).trans (r3.mono hs)⟩
  have HC := hide hC
  clear h h1 hbx hb hrow hC hrd hdr
  unfold k3O k3E at *
  go_enter Tryz.func26, Tryz.ntmps26
  go_wp2
  go_region_with (go_at_call 46; (refine HC.out.mono ?_; rintro e W1 ⟨v, rfl, k1, k2⟩; have HK := hide (And.intro k1 k2); clear k1 k2))
  all_goals
    clear lk HC x0 x1 x2 q0 qf
    go_wp2
    go_ret
    exact ⟨_, rfl, HK.out.1, HK.out.2⟩

set_option maxRecDepth 100000 in
/-- ListKeys. -/
theorem listKeys (O : Nat → Prop) (g N : Nat) (f : K3 → List Int) (w : World) (h : LiS w O g f N) (hN : N ≤ 1000) :
    Calls Tryz.prog 25 #[.pointer (some ⟨g, 0, none⟩)] w fun e w' => ∃ v ks, e = .returned v ∧ (∀ k, k ∈ ks ↔ f k ≠ []) ∧ RiseK ks ∧ OwnK w' w.heap.size v ks ∧ Below w.heap.size w w' := by
  obtain ⟨mo, l, c, h⟩ := h
  obtain ⟨q0, _⟩ := rm_cell h.obj
  have HAT := hide h.mem
  cases mo with
  | some r =>
    have HS := hide (sortedL r l c w (h.made r rfl).2.2 (by have := h.len; omega))
    clear h
    go_enter Tryz.func25, Tryz.ntmps25
    go_wp2_with fail
    refine HS.out.mono ?_
    rintro e w1 ⟨v, ks, rfl, k1, k2, k3, k4⟩
    have H1 : Hid (∀ k, k ∈ ks ↔ f k ≠ []) := fun k => k1.mem_iff.trans (HAT.out k)
    have H2 := hide k2
    have H3 := hide k3
    have H4 := hide k4
    clear k1 k2 k3 k4 HS
    go_wp2
    go_ret
    exact ⟨v, ks, rfl, H1.out, H2.out, H3.out, H4.out⟩
  | none =>
    have hl := h.nomap rfl
    subst hl
    clear h
    go_enter Tryz.func25, Tryz.ntmps25
    go_wp2_with fail
    refine (sortedNilL w).mono ?_
    rintro e w1 ⟨v, rfl, k3, k4⟩
    have H3 := hide k3
    have H4 := hide k4
    clear k3 k4
    go_wp2
    go_ret
    exact ⟨v, [], rfl, fun k => by have := HAT.out k; simpa using this, List.Pairwise.nil, H3.out, H4.out⟩
end Go.Proofs.YtkchfbigkecodaaGreat
