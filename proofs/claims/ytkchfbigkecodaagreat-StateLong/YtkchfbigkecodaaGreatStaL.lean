/- A state as a law holds it; Do, whatever the changes. -/
import Derived.Test.YtkchfbigkecodaaGreatStaC
namespace Go.Proofs.YtkchfbigkecodaaGreat
open Go.RowKit Go.MapKept Go.ChangeMaps

theorem may_range {x : Mq} (h : mayB x.m = true) : x.c = 5 → 0 ≤ x.f ∧ x.f < 8 := by
  intro hc
  obtain ⟨c, k, f, v⟩ := x
  simp only at hc
  subst hc
  simp [mayB, Mq.m, fieldB, hasF, inR] at h
  exact of_decide_eq_true h.1.2
theorem chOK_may (x : Mq) (h : mayB x.m = true) : ChOK x := by
  have h5 := may_range h
  obtain ⟨c, k, f, v⟩ := x
  have hk : 1 ≤ c ∧ c ≤ 6 := by
    simp [mayB, Mq.m, kindB] at h
    exact of_decide_eq_true h.1.1.1
  have hc : c = 1 ∨ c = 2 ∨ c = 3 ∨ c = 4 ∨ c = 5 ∨ c = 6 := by omega
  rcases hc with rfl | rfl | rfl | rfl | rfl | rfl
  · exact chOK_1 k f v
  · exact chOK_2 k f v
  · exact chOK_3 k f v
  · exact chOK_4 k f v
  · exact chOK_5 k f v (h5 rfl).1 (h5 rfl).2
  · exact chOK_6 k f v
theorem runQ_room {L0 : K3 → List Int} : ∀ {xs : List Mq} {lg : K3 → Option Int} {a : Ab}, roomB L0 lg xs = true → (∀ b, curL L0 lg b = ((a.L b).length : Int)) → (∀ b, (a.L b).length ≤ 100) → ∀ b, ((runQ a xs).L b).length ≤ 100 := by
  intro xs
  induction xs with
  | nil => intro lg a _ _ hl b; exact hl b
  | cons x xs ih =>
    intro lg a h hf hl b
    obtain ⟨f1, f2, f3⟩ := room_step h hf
    refine ih (a := doQ a x) f2 f3 (fun k => ?_) b
    unfold doQ
    by_cases e3 : x.c = 3
    · have h3 := f1 e3
      simp only [e3]
      by_cases ek : k = x.k
      · subst ek; simp [updR]; omega
      · simp [updR, ek]; exact hl k
    · repeat' split
      all_goals first
        | exact hl k
        | contradiction
        | skip
      show (updR a.L x.k [] k).length ≤ 100
      unfold updR
      split
      · simp
      · exact hl k

set_option maxRecDepth 100000 in
/-- Do of changes of which one may not be. -/
theorem do_form (s : Nat) (pa : Option Addr) (n cc : Nat) (ms : List Mt) (w : World) (hm : Ms w pa n ms) (hn : n ≤ 100000) (hmay : ms.all mayB = false) :
    Calls Tryz.prog 33 #[.pointer (some ⟨s, 0, none⟩), .slice pa n cc] w fun e w' => e = .returned (.int .i64 1) ∧ Below w.heap.size w w' := by
  have HA := hide (allMay_any pa n cc ms w hm hn)
  rw [hmay] at HA
  clear hm hmay
  go_enter Tryz.func33, Tryz.ntmps33
  go_wp2_with fail
  refine HA.out.mono ?_
  rintro e w1 ⟨rfl, hb1⟩
  have HB1 := hide hb1
  clear hb1 HA
  go_wp2_with fail
  go_ret
  exact ⟨rfl, HB1.out⟩

set_option maxRecDepth 100000 in
/-- Do of changes that there is no room for. -/
theorem do_full (O : Nat → Prop) (s gv gl gd N : Nat) (a : Ab) (pa : Option Addr) (n cc : Nat) (xs : List Mq) (w : World) (h : AbS w O s gv gl gd a N) (hL : ∀ k, (a.L k).length ≤ 100) (hm : Ms w pa n (xs.map Mq.m)) (hn : n ≤ 100000) (hmay : (xs.map Mq.m).all mayB = true) (hroom : roomB a.L (fun _ => none) xs = false) :
    Calls Tryz.prog 33 #[.pointer (some ⟨s, 0, none⟩), .slice pa n cc] w fun e w' => e = .returned (.int .i64 4) ∧ Below w.heap.size w w' := by
  have HA := hide (allMay_any pa n cc (xs.map Mq.m) w hm hn)
  rw [hmay] at HA
  have HRM : Hid (∀ W, Below w.heap.size w W → Calls Tryz.prog 53 #[.pointer (some ⟨s, 0, none⟩), .slice pa n cc] W fun e w' => e = .returned (.bool false) ∧ Below W.heap.size W w') := fun W hb => by
    have := hasRoom_any O s gv gl gd N a.V a.L a.D pa n cc xs W (StaS.later h hb) hL (hm.later hb (Nat.le_refl _)) hn
    rw [hroom] at this
    exact this
  clear h hm hmay hroom hL
  go_enter Tryz.func33, Tryz.ntmps33
  go_wp2_with fail
  refine HA.out.mono ?_
  rintro e w1 ⟨rfl, hb1⟩
  have HB1 := hide hb1
  clear hb1 HA
  go_wp2_with fail
  refine (HRM.out _ HB1.out).mono ?_
  rintro e w2 ⟨rfl, hb2⟩
  have HB2 := hide (HB1.out.trans (hb2.mono HB1.out.size))
  clear hb2 HB1 HRM
  go_wp2_with fail
  go_ret
  exact ⟨rfl, HB2.out⟩

/-- A state; the blocks E are the law's own. -/
structure Sh (w W : World) (s gv gl gd : Nat) (E : Nat → Prop) (a : Ab) (N : Nat) : Prop where
  st : AbS W (fun k => gv ≤ k ∧ ¬ E k) s gv gl gd a N
  lt : ∀ k, E k → k < W.heap.size
  gl : gv < W.heap.size
  gw : w.heap.size ≤ gv
  b : Below w.heap.size w W
  ok : AbOK a
  ll : ∀ k, (a.L k).length ≤ 100
section
variable {w W W' : World} {s gv gl gd N : Nat} {E : Nat → Prop} {a : Ab}
theorem Sh.later (h : Sh w W s gv gl gd E a N) (hb : Below W.heap.size W W') : Sh w W' s gv gl gd E a N :=
  ⟨StaS.later h.st hb, fun k hk => Nat.lt_of_lt_of_le (h.lt k hk) hb.size, Nat.lt_of_lt_of_le h.gl hb.size, h.gw, h.b.trans (hb.mono h.b.size), h.ok, h.ll⟩
theorem Sh.drew (h : Sh w W s gv gl gd E a N) : Sh w W.drew s gv gl gd E a N := h.later (Below.refl _ _).drew
theorem Sh.out (h : Sh w W s gv gl gd E a N) : ∀ k, W.heap.size ≤ k → gv ≤ k ∧ ¬ E k := fun k hk => ⟨by have := h.gl; omega, fun e => by have := h.lt k e; omega⟩
theorem Sh.dl (h : Sh w W s gv gl gd E a N) : ∀ k, (a.D k).length ≤ 100 := fun k => by have := OkF.le (h.ok k); omega
/-- One more block is the law's own. -/
theorem Sh.box (h : Sh w W s gv gl gd E a N) (o : Obj) : Sh w (W.alloc o) s gv gl gd (fun k => E k ∨ k = W.heap.size) a N := by
  have hb := below_alloc W o W.heap.size (Nat.le_refl _)
  have h1 := h.later hb
  have hl : AbS W (fun k => gv ≤ k ∧ ¬ (E k ∨ k = W.heap.size)) s gv gl gd a N := StaS.wide h.st (fun k hk hl => ⟨hk.1, fun e => by
    rcases e with e | e
    · exact hk.2 e
    · omega⟩)
  refine ⟨StaS.later hl hb, ?_, h1.gl, h.gw, h1.b, h.ok, h.ll⟩
  rintro k (e | e)
  · exact h1.lt k e
  · subst e; simp
theorem Sh.drop {E' : Nat → Prop} (h : Sh w W s gv gl gd E a N) (hE : ∀ j, E' j → E j) : Sh w W s gv gl gd E' a N :=
  ⟨StaS.wide h.st (fun k hk _ => ⟨hk.1, fun e => hk.2 (hE k e)⟩), fun j hj => h.lt j (hE j hj), h.gl, h.gw, h.b, h.ok, h.ll⟩
/-- Blocks ahead of the state may be the law's own as well. -/
theorem Sh.more {E' : Nat → Prop} (h : Sh w W s gv gl gd E a N) (hE : ∀ j, E' j → (E j ∨ j < gv) ∧ j < W.heap.size) : Sh w W s gv gl gd E' a N :=
  ⟨StaS.wide h.st (fun k hk _ => ⟨hk.1, fun e => (hE k e).1.elim hk.2 (fun hl => by have := hk.1; omega)⟩), fun j hj => (hE j hj).2, h.gl, h.gw, h.b, h.ok, h.ll⟩
/-- The law writes into what is its own. -/
theorem Sh.turn (h : Sh w W s gv gl gd E a N) (ht : Tch E W W') (hE : ∀ k, E k → w.heap.size ≤ k) : Sh w W' s gv gl gd E a N :=
  ⟨StaS.tch h.st ht (fun k hk _ e => hk.2 e), fun k hk => Nat.lt_of_lt_of_le (h.lt k hk) ht.size, Nat.lt_of_lt_of_le h.gl ht.size, h.gw, h.b.trans (ht.below (fun k hk e => by have := hE k e; omega) h.b.size), h.ok, h.ll⟩
theorem Sh.cells (h : Sh w W s gv gl gd E a N) : W.cell? ⟨s, 0, none⟩ = some (.pointer (some ⟨gv, 0, none⟩)) ∧ W.cell? ⟨s, 1, none⟩ = some (.pointer (some ⟨gl, 0, none⟩)) ∧ W.cell? ⟨s, 2, none⟩ = some (.pointer (some ⟨gd, 0, none⟩)) := sta_cells (StaS.obj h.st)
theorem Sh.do' (h : Sh w W s gv gl gd E a N) (pa : Option Addr) (n cc : Nat) (xs : List Mq) (hm : Ms W pa n (xs.map Mq.m)) (hn : n ≤ 100000) (hpa : ∀ b o, pa = some ⟨b, o, none⟩ → b < gv ∨ E b) (hmay : (xs.map Mq.m).all mayB = true) (hroom : roomB a.L (fun _ => none) xs = true) :
    Calls Tryz.prog 33 #[.pointer (some ⟨s, 0, none⟩), .slice pa n cc] W fun e w' => e = .returned (.int .i64 0) ∧ Sh w w' s gv gl gd E (runQ a xs) (N + n) ∧ Tch (fun k => gv ≤ k ∧ ¬ E k) W w' := by
  have hx : ∀ x ∈ xs, mayB x.m = true := fun x hx => by
    rw [List.all_eq_true] at hmay
    exact hmay _ (List.mem_map_of_mem hx)
  refine (do_ok (fun k => gv ≤ k ∧ ¬ E k) s gv gl gd N a pa n cc xs W h.st h.ll hm hn h.out (fun b o e hb => (hpa b o e).elim (fun hl => by have := hb.1; omega) hb.2) (fun x hm' => chOK_may x (hx x hm')) (fun k => AbOK.runQ h.ok (fun x hm' => may_range (hx x (List.mem_of_mem_take hm')))) hmay hroom).mono ?_
  rintro e w' ⟨r1, r2, r3⟩
  exact ⟨r1, ⟨r2, fun k hk => Nat.lt_of_lt_of_le (h.lt k hk) r3.size, Nat.lt_of_lt_of_le h.gl r3.size, h.gw, h.b.trans (r3.below (fun k hk e => by have := h.gw; omega) h.b.size), AbOK.runQ h.ok (fun x hm' => may_range (hx x hm')), runQ_room hroom (fun b => rfl) h.ll⟩, r3⟩
theorem Sh.value (h : Sh w W s gv gl gd E a N) (k : K3) :
    Calls Tryz.prog 21 #[.pointer (some ⟨gv, 0, none⟩), k3E k] W fun e w' => e = .returned (.tuple #[.int .i64 ((a.V k).getD 0), .bool (a.V k).isSome]) ∧ Sh w w' s gv gl gd E a N ∧ Below W.heap.size W w' := by
  obtain ⟨X, hX⟩ := StaS.rdV h.st
  refine (valueGet X gv N a.V k W hX).mono ?_
  rintro e w' ⟨r1, r2⟩
  exact ⟨r1, h.later r2, r2⟩
theorem Sh.field (h : Sh w W s gv gl gd E a N) (k : K3) (f : Int) :
    Calls Tryz.prog 32 #[.pointer (some ⟨gd, 0, none⟩), k3E k, .int .i64 f] W fun e w' => e = .returned (.tuple #[.int .i64 ((fldZ (a.D k) f).getD 0), .bool (fldZ (a.D k) f).isSome]) ∧ Sh w w' s gv gl gd E a N ∧ Below W.heap.size W w' := by
  obtain ⟨X, hX⟩ := StaS.rdD h.st
  refine (dictField X gd N a.D k f W hX (h.ok k).1 (h.dl k)).mono ?_
  rintro e w' ⟨r1, r2⟩
  exact ⟨r1, h.later r2, r2⟩
theorem Sh.list (h : Sh w W s gv gl gd E a N) (k : K3) :
    Calls Tryz.prog 26 #[.pointer (some ⟨gl, 0, none⟩), k3E k] W fun e w' => ∃ p c, e = .returned (.slice p (a.L k).length c) ∧ OwnI w' W.heap.size (.slice p (a.L k).length c) (a.L k) ∧ Sh w w' s gv gl gd E a N ∧ Below W.heap.size W w' := by
  obtain ⟨X, hX⟩ := StaS.rdL h.st
  refine (listList X gl N a.L k W hX (h.ll k)).mono ?_
  rintro e w' ⟨v, r1, r2, r3⟩
  obtain ⟨p, c, rfl, _⟩ := RowI.slice r2.row
  exact ⟨p, c, r1, r2, h.later r3, r3⟩
theorem Sh.dict (h : Sh w W s gv gl gd E a N) (k : K3) :
    Calls Tryz.prog 31 #[.pointer (some ⟨gd, 0, none⟩), k3E k] W fun e w' => ∃ p c, e = .returned (.slice p (a.D k).length c) ∧ Sh w w' s gv gl gd E a N ∧ Below W.heap.size W w' := by
  obtain ⟨X, hX⟩ := StaS.rdD h.st
  refine (dictDict X gd N a.D k W hX (h.dl k)).mono ?_
  rintro e w' ⟨v, r1, r2, r3⟩
  obtain ⟨p, c, rfl, _⟩ := RowF.rd r2.row
  exact ⟨p, c, r1, h.later r3, r3⟩
theorem Sh.told (h : Sh w W s gv gl gd E a N) (hN : N ≤ 1000) {ks : List K3} (hk : Kof a ks) :
    Calls Tryz.prog 35 #[.pointer (some ⟨s, 0, none⟩)] W fun e w' => ∃ p c, e = .returned (.slice p ks.length c) ∧ Sh w w' s gv gl gd E a N ∧ Below W.heap.size W w' := by
  refine (stateCells _ s gv gl gd N a W h.st hN h.ll h.dl).mono ?_
  rintro e w' ⟨v, xs, ks', r1, r2, r3, r4, r5, r6⟩
  have e1 : ks' = ks := rise_eq r2.1 hk.1 (fun k => (r2.2 k).trans (hk.2 k).symm)
  have e2 : xs.length = ks.length := by
    have := congrArg List.length r4
    rw [List.length_map, List.length_map, e1] at this
    exact this
  rcases r5.slice with ⟨e3, e4⟩ | ⟨g, cp, e3, _⟩
  · subst e4
    refine ⟨none, 0, ?_, h.later r6, r6⟩
    rw [r1, e3, ← e2]; rfl
  · refine ⟨some ⟨g, 0, none⟩, cp, ?_, h.later r6, r6⟩
    rw [r1, e3, e2]
end
theorem Sh.new (w w1 : World) (hb : Below w.heap.size w w1) : Sh w (newSt w1) (w1.heap.size + 1 + 1 + 1) w1.heap.size (w1.heap.size + 1) (w1.heap.size + 1 + 1) (fun _ => False) ab0 0 := by
  have h1 := newSt_below w1
  have h2 := newSt_size w1
  exact ⟨StaS.new w1 _ (fun k hk => ⟨hk, fun e => e⟩), fun _ e => e.elim, by omega, hb.size, hb.trans (h1.mono hb.size), abOK0, fun _ => Nat.zero_le _⟩
end Go.Proofs.YtkchfbigkecodaaGreat
