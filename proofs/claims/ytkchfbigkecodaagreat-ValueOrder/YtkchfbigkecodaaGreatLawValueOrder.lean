/- The statement ValueOrder: values set in any order are one; the last one of a key stands, for all numbers. -/
import Derived.Test.YtkchfbigkecodaaGreatKeyF
import Derived.Test.YtkchfbigkecodaaGreatBeg7
import Derived.Test.YtkchfbigkecodaaGreatLawA
import Derived.Deep.LoopGhost
import Derived.Deep.CutBlock
namespace Go.Proofs.YtkchfbigkecodaaGreat.valueOrder
open Go.ChangeShapes Go.WideShapes Go.ChangeAt Go.RowKit Go.MapKept Go.ChangeMaps

/-- Two values that are apart. -/
structure TwoV (w W : World) (ga gb : Nat) (fa fb : K3 → Option Int) (N M : Nat) (A B : Nat → Prop) : Prop where
  a : VlS W A ga fa N
  b : VlS W B gb fb M
  sub : ∀ k, A k ∨ B k → w.heap.size ≤ k ∧ k < W.heap.size
  ab : ∀ k, A k → ¬ B k
  bel : Below w.heap.size w W
theorem TwoV.later {w W W' : World} {ga gb N M : Nat} {fa fb : K3 → Option Int} {A B : Nat → Prop} (h : TwoV w W ga gb fa fb N M A B) (hb : Below W.heap.size W W') : TwoV w W' ga gb fa fb N M A B :=
  ⟨h.a.later hb, h.b.later hb, fun k hk => ⟨(h.sub k hk).1, Nat.lt_of_lt_of_le (h.sub k hk).2 hb.size⟩, h.ab, h.bel.trans (hb.mono h.bel.size)⟩
theorem TwoV.swap {w W : World} {ga gb N M : Nat} {fa fb : K3 → Option Int} {A B : Nat → Prop} (h : TwoV w W ga gb fa fb N M A B) : TwoV w W gb ga fb fa M N B A :=
  ⟨h.b, h.a, fun k hk => h.sub k hk.symm, fun k hb ha => h.ab k ha hb, h.bel⟩
theorem TwoV.set {w W : World} {ga gb N M : Nat} {fa fb : K3 → Option Int} {A B : Nat → Prop} (h : TwoV w W ga gb fa fb N M A B) (k : K3) (n : Int) :
    Calls Tryz.prog 17 #[.pointer (some ⟨ga, 0, none⟩), k3E k, .int .i64 n] W fun e w' => e = .returned (.tuple #[]) ∧ (∃ A', TwoV w w' ga gb (updK fa k (some n)) fb (N + 1) M A' B) ∧ Tch (fun j => A j ∨ W.heap.size ≤ j) W w' := by
  refine (valueSet (fun j => A j ∨ W.heap.size ≤ j) ga N fa k n W (h.a.sub (fun j hj _ => Or.inl hj)) (fun j hj => Or.inr hj)).mono ?_
  rintro e w' ⟨r1, r2, r3⟩
  refine ⟨r1, ⟨fun j => (A j ∨ W.heap.size ≤ j) ∧ j < w'.heap.size, r2.sub (fun j hj hl => ⟨hj, hl⟩), h.b.tch r3 (fun j hj e => ?_), fun j hj => ?_, fun j hj hb => ?_, h.bel.trans (r3.below (fun j hj e => ?_) h.bel.size)⟩, r3⟩
  · rcases e with e | e
    · exact h.ab j e hj
    · have := (h.sub j (Or.inr hj)).2; omega
  · rcases hj with ⟨e | e, hl⟩ | e
    · exact ⟨(h.sub j (Or.inl e)).1, hl⟩
    · exact ⟨Nat.le_trans h.bel.size e, hl⟩
    · exact ⟨(h.sub j (Or.inr e)).1, Nat.lt_of_lt_of_le (h.sub j (Or.inr e)).2 r3.size⟩
  · rcases hj.1 with e | e
    · exact h.ab j e hb
    · have := (h.sub j (Or.inr hb)).2; omega
  · rcases e with e | e
    · have := (h.sub j (Or.inl e)).1; omega
    · have := h.bel.size; omega

/-- The keys and the values, in order. -/
def kk (z : List Int) (i : Nat) : K3 := keyF (z.getD i 0) (IntKind.i64.wrap ((z.getD i 0).tdiv 4)) (z.getD i 0)
/-- Set from the first on. -/
def fw (z v : List Int) : Nat → K3 → Option Int
  | 0 => fun _ => none
  | i + 1 => updK (fw z v i) (kk z i) (some (v.getD i 0))
/-- Set from the last on, what is there stays; m of them. -/
def bw (z v : List Int) (n : Nat) : Nat → K3 → Option Int
  | 0 => fun _ => none
  | m + 1 => if bw z v n m (kk z (n - 1 - m)) = none then updK (bw z v n m) (kk z (n - 1 - m)) (some (v.getD (n - 1 - m) 0)) else bw z v n m
theorem fw_bw (z v : List Int) (n : Nat) : ∀ m, m ≤ n → ∀ k, fw z v n k = (match bw z v n m k with | some x => some x | none => fw z v (n - m) k) := by
  intro m
  induction m with
  | zero => intro _ k; simp [bw]
  | succ m ih =>
    intro hm k
    rw [ih (by omega) k]
    obtain ⟨i, hi⟩ : ∃ i, n - m = i + 1 := ⟨n - m - 1, by omega⟩
    have e1 : n - 1 - m = i := by omega
    have e2 : n - (m + 1) = i := by omega
    rw [hi, e2]
    simp only [bw, e1, fw]
    by_cases hb : bw z v n m (kk z i) = none
    · rw [if_pos hb]
      by_cases ek : k = kk z i
      · subst ek; simp [updK, hb]
      · simp [updK, ek]
    · rw [if_neg hb]
      by_cases ek : k = kk z i
      · subst ek
        cases h : bw z v n m (kk z i) with
        | none => exact absurd h hb
        | some x => rfl
      · cases h : bw z v n m k with
        | none => simp [updK, ek]
        | some x => rfl
theorem fw_eq (z v : List Int) (n : Nat) : fw z v n = bw z v n n := by
  funext k
  rw [fw_bw z v n n (Nat.le_refl _) k, Nat.sub_self]
  cases bw z v n n k <;> rfl

theorem neqK (a : K3) (W : World) : (binOp .neq 28 (.agg #[.int .i64 a.g, .int .i64 a.n, .int .i64 a.i]) (.agg #[.int .i64 a.g, .int .i64 a.n, .int .i64 a.i])).run Tryz.prog W = .ok (.bool false) W := by
  generalize a.g = g
  generalize a.n = n
  generalize a.i = i
  simp [go_sem]
theorem TwoV.getB {w W : World} {ga gb N M : Nat} {fa fb : K3 → Option Int} {A B : Nat → Prop} (h : TwoV w W ga gb fa fb N M A B) (k : K3) :
    Calls Tryz.prog 21 #[.pointer (some ⟨gb, 0, none⟩), k3E k] W fun e w' => e = .returned (.tuple #[.int .i64 ((fb k).getD 0), .bool (fb k).isSome]) ∧ Below W.heap.size W w' :=
  valueGet B gb M fb k W h.b
theorem TwoV.far {w W W' : World} {ga gb N M r : Nat} {fa fb : K3 → Option Int} {A B : Nat → Prop} (h : TwoV w W ga gb fa fb N M A B) (ht : Tch (fun j => j = r) W W') (hr : ∀ k, A k ∨ B k → k ≠ r) (hw : w.heap.size ≤ r) : TwoV w W' ga gb fa fb N M A B :=
  ⟨h.a.tch ht (fun k hk e => hr k (Or.inl hk) e), h.b.tch ht (fun k hk e => hr k (Or.inr hk) e), fun k hk => ⟨(h.sub k hk).1, Nat.lt_of_lt_of_le (h.sub k hk).2 ht.size⟩, h.ab, h.bel.trans (ht.below (fun k hk e => by omega) h.bel.size)⟩
theorem set3 {w : World} {r : Nat} {a0 a1 a2 : Value} (h : w.heap[r]? = some (.cells #[a0, a1, a2] 28 (0, 0))) (b0 b1 b2 : Value) :
    (((w.setCell ⟨r, 0, none⟩ b0).setCell ⟨r, 1, none⟩ b1).setCell ⟨r, 2, none⟩ b2).heap[r]? = some (.cells #[b0, b1, b2] 28 (0, 0)) ∧ Tch (fun j => j = r) w (((w.setCell ⟨r, 0, none⟩ b0).setCell ⟨r, 1, none⟩ b1).setCell ⟨r, 2, none⟩ b2) := by
  obtain ⟨hlt, he⟩ := Array.getElem?_eq_some_iff.1 h
  have s : ∀ (w : World) (j : Nat) (b : Value), Tch (fun j => j = r) w (w.setCell ⟨r, j, none⟩ b) := fun w j b => (Tch.of (grown_setCell w r j b)).mono (fun k _ e => Option.some.inj e)
  refine ⟨by simp [World.setCell, Array.getElem_modify, hlt, he], ((s w 0 b0).trans (s _ 1 b1)).trans (s _ 2 b2)⟩
theorem far3 {w : World} {r : Nat} {p : Addr} {v : Value} (h : w.cell? p = some v) (hp : p.block ≠ r) (b0 b1 b2 : Value) : (((w.setCell ⟨r, 0, none⟩ b0).setCell ⟨r, 1, none⟩ b1).setCell ⟨r, 2, none⟩ b2).cell? p = some v := by
  have s : ∀ (w : World) (j : Nat) (b : Value), (w.setCell ⟨r, j, none⟩ b).heap[p.block]? = w.heap[p.block]? := fun w j b => Below.heap_setCell _ _ _ _ (fun e => hp e)
  rw [World.cell?_of_block (a := p) (show _ = w.heap[p.block]? by rw [s, s, s])]
  exact h
theorem bw_eq (z v : List Int) (n m : Nat) (j : Nat) (hj : n - 1 - m = j) (κ : K3) (hk : kk z j = κ) (y : Int) (hy : v.getD j 0 = y) :
    bw z v n (m + 1) = if bw z v n m κ = none then updK (bw z v n m) κ (some y) else bw z v n m := by
  subst hj; subst hk; subst hy; rfl

set_option maxRecDepth 100000 in
set_option maxHeartbeats 8000000 in
theorem walk (a0 : Option Addr) (n0 c0 : Nat) (z0 : List Int) (a1 : Option Addr) (n1 c1 : Nat) (z1 : List Int) (w : World) (h0 : Row .i64 w a0 n0 c0 z0) (h1 : Row .i64 w a1 n1 c1 z1) :
    Calls Tryz.prog 7 #[.slice a0 n0 c0, .slice a1 n1 c1] w fun e w' => e = .returned (.bool true) ∧ Below w.heap.size w w' := by
  obtain ⟨n, hn⟩ : ∃ n, min (min n0 n1) 20 = n := ⟨_, rfl⟩
  have hrm : ∀ (W : World) (ts : Array TypeId) (ty : TypeId), (Builtin.min_ ts ty #[.int .i64 (n0 : Int), .int .i64 (n1 : Int), .int .i64 20]).run Tryz.prog W = .ok (.int .i64 (n : Int)) W := fun W ts ty => by
    rw [run_min_int3]
    congr 2
    split <;> split <;> omega
  have HR0 := hide h0
  have HR1 := hide h1
  have hc0 := h0.2.1
  have hc1 := h1.2.1
  have hn20 : n ≤ 20 := by omega
  have hnn0 : n ≤ n0 := by omega
  have hnn1 : n ≤ n1 := by omega
  clear h0 h1
  go_enter Tryz.func7, Tryz.ntmps7
  go_wp2_with fail
  refine (begun7_true _).mono ?_
  rintro e w1 ⟨rfl, hb1⟩
  go_wp2_with fail
  refine (valueNew _).mono ?_
  rintro e w2 ⟨rfl, rfl⟩
  go_wp2_with fail
  refine (valueNew _).mono ?_
  rintro e w2 ⟨rfl, rfl⟩
  have hz : (w1.alloc (vlObj none)).heap.size = w1.heap.size + 1 := by simp
  have HT0 : Hid (∃ A B, TwoV w ((w1.alloc (vlObj none)).alloc (vlObj none)) w1.heap.size (w1.heap.size + 1) (fw z0 z1 0) (bw z0 z1 n 0) 0 0 A B) := by
    have hba := below_alloc w1 (vlObj none) w1.heap.size (Nat.le_refl _)
    have hbb := below_alloc (w1.alloc (vlObj none)) (vlObj none) _ (Nat.le_refl _)
    have hbn := VlS.new (w1.alloc (vlObj none)) (fun k => k = w1.heap.size + 1) (by simp)
    rw [hz] at hbn
    refine ⟨fun k => k = w1.heap.size, fun k => k = w1.heap.size + 1, (VlS.new w1 (fun k => k = w1.heap.size) rfl).later hbb, hbn, fun k hk => ?_, fun k e1 e2 => by omega, (hb1.trans (hba.mono hb1.size)).trans (hbb.mono (by rw [hz]; have := hb1.size; omega))⟩
    have := hb1.size
    rcases hk with rfl | rfl
    · exact ⟨this, by simp; omega⟩
    · exact ⟨by omega, by simp⟩
  rw [hz]
  generalize (w1.alloc (vlObj none)).alloc (vlObj none) = W2 at *
  generalize w1.heap.size = ga at *
  clear hb1 hz
  go_wp2_with fail
  clear hrm
  go_loopg [9] n (fun gm i wr => ∃ j : Nat, gm = n - j ∧ j ≤ n ∧ i = .int .i64 j ∧ Hid (∃ A B, TwoV w wr ga (ga + 1) (fw z0 z1 j) (bw z0 z1 n 0) j 0 A B))
  case atStart => exact ⟨0, rfl, by omega, rfl, HT0⟩
  case round =>
    clear HT0
    obtain ⟨j, rfl, hj, rfl, HT⟩ := hrel
    by_cases hlt : j < n
    · have hl0 := HR0.out.1
      have hl1 := HR1.out.1
      obtain ⟨b0, o0, rfl, hq0⟩ := HR0.out.2.2.2.2.1 (by omega)
      obtain ⟨b1, o1, rfl, hq1⟩ := HR1.out.2.2.2.2.1 (by omega)
      obtain ⟨A, B, hT⟩ := HT.out
      have p0 : wr.cell? ⟨b0, o0 + j, none⟩ = some (.int .i64 (z0.getD j 0)) := (hT.bel.cell (World.block_lt_of_cell? w _ (hq0 j (by omega)))).trans (hq0 j (by omega))
      have p1 : wr.cell? ⟨b1, o1 + j, none⟩ = some (.int .i64 (z1.getD j 0)) := (hT.bel.cell (World.block_lt_of_cell? w _ (hq1 j (by omega)))).trans (hq1 j (by omega))
      have q0 := hq0 j (by omega)
      have q1 := hq1 j (by omega)
      have HKK : Hid (kk z0 j = keyF (z0.getD j 0) (IntKind.i64.wrap ((z0.getD j 0).tdiv 4)) (z0.getD j 0)) := rfl
      have HFW : Hid (fw z0 z1 (j + 1) = updK (fw z0 z1 j) (kk z0 j) (some (z1.getD j 0))) := rfl
      generalize z0.getD j 0 = x at *
      generalize z1.getD j 0 = y at *
      obtain ⟨d0, hd⟩ : ∃ d0, x.tdiv 4 = d0 := ⟨_, rfl⟩
      obtain ⟨d, hdw⟩ : ∃ d, IntKind.i64.wrap d0 = d := ⟨_, rfl⟩
      rw [hd, hdw] at HKK
      generalize kk z0 j = κ at *
      have hj0 : j < n0 := by omega
      have hj1 : j < n1 := by omega
      have hD := (Below.refl wr.heap.size wr).drew
      have HK : Hid (Calls Tryz.prog 39 #[.int .i64 x, .int .i64 d, .int .i64 x] wr.drew fun e w' => e = .returned (.agg #[.int .i64 κ.g, .int .i64 κ.n, .int .i64 κ.i]) ∧ Hid (TwoV w w' ga (ga + 1) (fw z0 z1 j) (bw z0 z1 n 0) j 0 A B) ∧ (w'.cell? ⟨b0, o0 + j, none⟩ = some (.int .i64 x) ∧ w'.cell? ⟨b1, o1 + j, none⟩ = some (.int .i64 y))) := by
        rw [HKK.out]
        refine (key_any _ _ _ _).mono ?_
        rintro e w' ⟨r1, r2⟩
        have hb := hD.trans (r2.mono hD.size)
        exact ⟨r1, hT.later hb, same_cell hb p0, same_cell hb p1⟩
      have HS : Hid (∀ W, Hid (TwoV w W ga (ga + 1) (fw z0 z1 j) (bw z0 z1 n 0) j 0 A B) → Calls Tryz.prog 17 #[.pointer (some ⟨ga, 0, none⟩), .agg #[.int .i64 κ.g, .int .i64 κ.n, .int .i64 κ.i], .int .i64 y] W fun e w' => e = .returned (.tuple #[]) ∧ Hid (∃ A B, TwoV w w' ga (ga + 1) (updK (fw z0 z1 j) κ (some y)) (bw z0 z1 n 0) (j + 1) 0 A B) ∧ (w'.cell? ⟨b0, o0 + j, none⟩ = some (.int .i64 x) ∧ w'.cell? ⟨b1, o1 + j, none⟩ = some (.int .i64 y))) := fun W hW => by
        refine Calls.mono (hW.out.set κ y) ?_
        rintro e w' ⟨r1, ⟨A', r2⟩, r3⟩
        exact ⟨r1, ⟨A', B, r2⟩, (r2.bel.cell (World.block_lt_of_cell? w _ (q0))).trans (q0), (r2.bel.cell (World.block_lt_of_cell? w _ (q1))).trans (q1)⟩
      have s0d : wr.drew.cell? ⟨b0, o0 + j, none⟩ = some (.int .i64 x) ∧ wr.drew.cell? ⟨b1, o1 + j, none⟩ = some (.int .i64 y) := ⟨p0, p1⟩
      clear HT hT hq0 hq1 q0 q1 hD HR0 HR1 hl0 hl1 p0 p1 HKK
      go_wp2
      go_region_held3 (fun w' => w'.cell? ⟨b0, o0 + j, none⟩ = some (.int .i64 x) ∧ w'.cell? ⟨b1, o1 + j, none⟩ = some (.int .i64 y)) (first | with_reducible exact s0d | with_reducible exact s1 | with_reducible exact s2) (first | (go_at_call 39; with_reducible refine HK.out.mono ?_; rintro e W1 ⟨rfl, K1, s1⟩) | (go_at_call 17; with_reducible refine (HS.out _ K1).mono ?_; rintro e W2 ⟨rfl, K2, s2⟩))
      all_goals
        clear HK HS s0d s1 s2 K1
        go_wp2
        go_roundg (n - (j + 1))
        case measure => omega
        case rel => exact ⟨j + 1, rfl, by omega, by simp, by rw [HFW.out]; exact K2⟩
    · obtain rfl : j = n := by omega
      have HU0 : Hid (∃ A B, TwoV w wr ga (ga + 1) (fw z0 z1 j) (bw z0 z1 j 0) j 0 A B) := HT
      clear HT hlt hj
      go_wp2_with fail
      go_loopg [10] j (fun gm i wq => ∃ m : Nat, gm = j - m ∧ m ≤ j ∧ i = .int .i64 ((j : Int) - 1 - (m : Int)) ∧ Hid (∃ A B, TwoV w wq ga (ga + 1) (fw z0 z1 j) (bw z0 z1 j m) j m A B))
      case atStart => exact ⟨0, rfl, by omega, by simp, HU0⟩
      case round =>
        clear HU0
        obtain ⟨m, rfl, hm, rfl, HT⟩ := hrel
        by_cases hlt : m < j
        · obtain ⟨t, ht⟩ : ∃ t : Nat, j - 1 - m = t := ⟨_, rfl⟩
          have hti : (j : Int) - 1 - (m : Int) = (t : Int) := by omega
          rw [hti]
          have hl0 := HR0.out.1
          have hl1 := HR1.out.1
          obtain ⟨b0, o0, rfl, hq0⟩ := HR0.out.2.2.2.2.1 (by omega)
          obtain ⟨b1, o1, rfl, hq1⟩ := HR1.out.2.2.2.2.1 (by omega)
          obtain ⟨A, B, hT⟩ := HT.out
          have q0 := hq0 t (by omega)
          have q1 := hq1 t (by omega)
          have HKK : Hid (kk z0 t = keyF (z0.getD t 0) (IntKind.i64.wrap ((z0.getD t 0).tdiv 4)) (z0.getD t 0)) := rfl
          have HBW : Hid (∀ κ, kk z0 t = κ → bw z0 z1 j (m + 1) = if bw z0 z1 j m κ = none then updK (bw z0 z1 j m) κ (some (z1.getD t 0)) else bw z0 z1 j m) := fun κ hk => bw_eq z0 z1 j m t ht κ hk _ rfl
          generalize z0.getD t 0 = x at *
          generalize z1.getD t 0 = y at *
          have p0 : wr.cell? ⟨b0, o0 + t, none⟩ = some (.int .i64 x) := (hT.bel.cell (World.block_lt_of_cell? w _ q0)).trans q0
          have ht0 : t < n0 := by omega
          have ht1 : t < n1 := by omega
          obtain ⟨d0, hd⟩ : ∃ d0, x.tdiv 4 = d0 := ⟨_, rfl⟩
          obtain ⟨d, hdw⟩ : ∃ d, IntKind.i64.wrap d0 = d := ⟨_, rfl⟩
          rw [hd, hdw] at HKK
          obtain ⟨κ, hκ⟩ : ∃ κ, kk z0 t = κ := ⟨_, rfl⟩
          have HB1 := hide (HBW.out κ hκ)
          rw [hκ] at HKK
          have hD := (below_alloc wr (.cells #[.int .i64 0, .int .i64 0, .int .i64 0] 28) wr.heap.size (Nat.le_refl _)).drew
          have hzo : (wr.alloc (.cells #[.int .i64 0, .int .i64 0, .int .i64 0] 28)).drew.heap[wr.heap.size]? = some (.cells #[.int .i64 0, .int .i64 0, .int .i64 0] 28) := heap_alloc_new wr _
          have hb0 : b0 ≠ wr.heap.size := by have := World.block_lt_of_cell? wr _ p0; simp at this; omega
          have HK : Hid (Calls Tryz.prog 39 #[.int .i64 x, .int .i64 d, .int .i64 x] (wr.alloc (.cells #[.int .i64 0, .int .i64 0, .int .i64 0] 28)).drew fun e w' => e = .returned (.agg #[.int .i64 κ.g, .int .i64 κ.n, .int .i64 κ.i]) ∧ Hid (TwoV w w' ga (ga + 1) (fw z0 z1 j) (bw z0 z1 j m) j m A B ∧ w'.heap[wr.heap.size]? = some (.cells #[.int .i64 0, .int .i64 0, .int .i64 0] 28)) ∧ w'.cell? ⟨b0, o0 + t, none⟩ = some (.int .i64 x) ∧ (w'.cell? ⟨wr.heap.size, 0, none⟩ = some (.int .i64 0) ∧ w'.cell? ⟨wr.heap.size, 1, none⟩ = some (.int .i64 0) ∧ w'.cell? ⟨wr.heap.size, 2, none⟩ = some (.int .i64 0)) ∧ (∀ i, w'.frozen? ⟨wr.heap.size, i, none⟩ = false)) := by
            rw [HKK.out]
            refine (key_any _ _ _ _).mono ?_
            rintro e w' ⟨r1, r2⟩
            have hb := hD.trans (r2.mono hD.size)
            have hz := boxed_old hzo r2
            exact ⟨r1, ⟨hT.later hb, hz⟩, same_cell hb p0, cells_three hz, fun i => by simp [World.frozen?, hz]⟩
          have hDb := (Below.refl wr.heap.size wr).drew
          have HKb : Hid (Calls Tryz.prog 39 #[.int .i64 x, .int .i64 d, .int .i64 x] wr.drew fun e w' => e = .returned (.agg #[.int .i64 κ.g, .int .i64 κ.n, .int .i64 κ.i]) ∧ Hid (TwoV w w' ga (ga + 1) (fw z0 z1 j) (bw z0 z1 j m) j m A B ∧ (∀ k, A k ∨ B k → k ≠ w'.heap.size)) ∧ w'.cell? ⟨b0, o0 + t, none⟩ = some (.int .i64 x)) := by
            rw [HKK.out]
            refine (key_any _ _ _ _).mono ?_
            rintro e w' ⟨r1, r2⟩
            have hb := hDb.trans (r2.mono hDb.size)
            exact ⟨r1, ⟨hT.later hb, fun k hk e => by have := ((hT.later hb).sub k hk).2; omega⟩, same_cell hb p0⟩
          have s0d : wr.drew.cell? ⟨b0, o0 + t, none⟩ = some (.int .i64 x) := p0
          have s0e : (wr.alloc (.cells #[.int .i64 0, .int .i64 0, .int .i64 0] 28)).drew.cell? ⟨b0, o0 + t, none⟩ = some (.int .i64 x) := same_cell hD p0
          have HIN : Hid (∀ W, Below w.heap.size w W → W.cell? ⟨b1, o1 + t, none⟩ = some (.int .i64 y)) := fun W hW => (hW.cell (World.block_lt_of_cell? w _ q1)).trans q1
          have HAB : Hid ((∀ k, A k ∨ B k → k ≠ wr.heap.size) ∧ w.heap.size ≤ wr.heap.size) := ⟨fun k hk e => by have := (hT.sub k hk).2; omega, hT.bel.size⟩
          clear HT hT hq0 hq1 q0 q1 hD hDb hl0 hl1 p0 HKK HBW hκ hzo
          go_wp2
          go_region_held3 (fun w' => w'.cell? ⟨b0, o0 + t, none⟩ = some (.int .i64 x)) (first | with_reducible exact s0d | with_reducible exact s0e | with_reducible exact s1 | with_reducible exact s1b | exact far3 s1 hb0 _ _ _ | exact same_cell (below_alloc _ _ _ (Nat.le_refl _)) s1b) ((go_at_call 39; first | (with_reducible refine HK.out.mono ?_; rintro e W1 ⟨rfl, K1, s1, ⟨u0, u1, u2⟩, fr⟩) | (with_reducible refine HKb.out.mono ?_; rintro e W1 ⟨rfl, K1b, s1b⟩)))
          all_goals
            first
              | (have HS3 := hide (set3 K1.out.2 (.int .i64 κ.g) (.int .i64 κ.n) (.int .i64 κ.i)).1
                 have HT2 := hide (K1.out.1.far (set3 K1.out.2 (.int .i64 κ.g) (.int .i64 κ.n) (.int .i64 κ.i)).2 HAB.out.1 HAB.out.2)
                 have HRR : Hid (∀ k, A k ∨ B k → k ≠ wr.heap.size) := HAB.out.1
                 clear HK HKb s0d s0e s1 u0 u1 u2 fr K1 HAB hb0
                 generalize ((W1.setCell ⟨wr.heap.size, 0, none⟩ (.int .i64 κ.g)).setCell ⟨wr.heap.size, 1, none⟩ (.int .i64 κ.n)).setCell ⟨wr.heap.size, 2, none⟩ (.int .i64 κ.i) = W2 at *
                 generalize wr.heap.size = r at *)
              | (have HS3 : Hid ((W1.alloc (.cells #[.int .i64 κ.g, .int .i64 κ.n, .int .i64 κ.i] 28)).heap[W1.heap.size]? = some (.cells #[.int .i64 κ.g, .int .i64 κ.n, .int .i64 κ.i] 28)) := heap_alloc_new W1 _
                 have HT2 := hide (K1b.out.1.later (below_alloc W1 (.cells #[.int .i64 κ.g, .int .i64 κ.n, .int .i64 κ.i] 28) W1.heap.size (Nat.le_refl _)))
                 have HRR : Hid (∀ k, A k ∨ B k → k ≠ W1.heap.size) := K1b.out.2
                 clear HK HKb s0d s0e s1b K1b HAB hb0
                 generalize W1.alloc (.cells #[.int .i64 κ.g, .int .i64 κ.n, .int .i64 κ.i] 28) = W2 at *
                 generalize W1.heap.size = r at *)
          all_goals
            obtain ⟨x0, x1, x2⟩ := cells_three HS3.out
            have HV : Hid (Calls Tryz.prog 21 #[.pointer (some ⟨ga + 1, 0, none⟩), .agg #[.int .i64 κ.g, .int .i64 κ.n, .int .i64 κ.i]] W2 fun e w' => e = .returned (.tuple #[.int .i64 ((bw z0 z1 j m κ).getD 0), .bool (bw z0 z1 j m κ).isSome]) ∧ Below W2.heap.size W2 w') := HT2.out.getB κ
            go_wp2_with fail
            refine HV.out.mono ?_
            rintro e W3 ⟨rfl, hb3⟩
            have HT3 := hide (HT2.out.later hb3)
            have HX3 := hide (boxed_old HS3.out hb3)
            clear hb3 HV HT2 HS3 x0 x1 x2
            cases hbw : bw z0 z1 j m κ with
            | some u =>
              have HN : Hid (bw z0 z1 j (m + 1) = bw z0 z1 j m) := by
                show _ = _
                rw [HB1.out, hbw]
                simp
              clear HB1 hbw HX3
              simp only [Option.isSome_some, Option.getD_some]
              go_wp2
              go_roundg (j - (m + 1))
              case measure => omega
              case rel => exact ⟨m + 1, rfl, by omega, by simp; omega, A, B, by rw [HN.out]; have := HT3.out; exact ⟨this.a, this.b.more (Nat.le_succ _), this.sub, this.ab, this.bel⟩⟩
            | none =>
              have HN : Hid (bw z0 z1 j (m + 1) = updK (bw z0 z1 j m) κ (some y)) := by
                show _ = _
                rw [HB1.out, if_pos hbw]
              obtain ⟨x0, x1, x2⟩ := cells_three HX3.out
              have p1 := HIN.out W3 HT3.out.bel
              have HS : Hid (Calls Tryz.prog 17 #[.pointer (some ⟨ga + 1, 0, none⟩), .agg #[.int .i64 κ.g, .int .i64 κ.n, .int .i64 κ.i], .int .i64 y] W3.drew fun e w' => e = .returned (.tuple #[]) ∧ Hid (∃ A B, TwoV w w' ga (ga + 1) (fw z0 z1 j) (bw z0 z1 j (m + 1)) j (m + 1) A B) ∧ (w'.cell? ⟨r, 0, none⟩ = some (.int .i64 κ.g) ∧ w'.cell? ⟨r, 1, none⟩ = some (.int .i64 κ.n) ∧ w'.cell? ⟨r, 2, none⟩ = some (.int .i64 κ.i) ∧ w'.cell? ⟨b1, o1 + t, none⟩ = some (.int .i64 y))) := by
                have hD3 := (Below.refl W3.heap.size W3).drew
                refine Calls.mono ((HT3.out.later hD3).swap.set κ y) ?_
                rintro e w' ⟨r1, ⟨B', r2⟩, r3⟩
                have hx := r3.old (g := r) (boxed_old HX3.out hD3) (fun e => by
                  rcases e with e | e
                  · exact HRR.out _ (Or.inr e) rfl
                  · have := lt_of_heap HX3.out; have h4 : W3.heap.size ≤ r := e; omega)
                obtain ⟨y0, y1, y2⟩ := cells_three hx
                exact ⟨r1, ⟨A, B', by rw [HN.out]; exact r2.swap⟩, y0, y1, y2, HIN.out w' r2.bel⟩
              have s0f : W3.drew.cell? ⟨r, 0, none⟩ = some (.int .i64 κ.g) ∧ W3.drew.cell? ⟨r, 1, none⟩ = some (.int .i64 κ.n) ∧ W3.drew.cell? ⟨r, 2, none⟩ = some (.int .i64 κ.i) ∧ W3.drew.cell? ⟨b1, o1 + t, none⟩ = some (.int .i64 y) := ⟨x0, x1, x2, p1⟩
              clear HB1 hbw x0 x1 x2 p1 HX3 HT3 HIN
              simp only [Option.isSome_none, Option.getD_none]
              go_wp2
              go_region_held3 (fun w' => w'.cell? ⟨r, 0, none⟩ = some (.int .i64 κ.g) ∧ w'.cell? ⟨r, 1, none⟩ = some (.int .i64 κ.n) ∧ w'.cell? ⟨r, 2, none⟩ = some (.int .i64 κ.i) ∧ w'.cell? ⟨b1, o1 + t, none⟩ = some (.int .i64 y)) (first | with_reducible exact s0f | with_reducible exact s2) ((go_at_call 17; with_reducible refine HS.out.mono ?_; rintro e W4 ⟨rfl, K4, s2⟩))
              all_goals
                clear HS s0f s2
                go_wp2
                go_roundg (j - (m + 1))
                case measure => omega
                case rel => exact ⟨m + 1, rfl, by omega, by simp; omega, K4⟩
        · obtain rfl : m = j := by omega
          obtain ⟨A, B, hT⟩ := HT.out
          rw [← fw_eq] at hT
          generalize fw z0 z1 m = fv at hT
          have HKA := hide (valueKeys A ga m fv wr hT.a (by omega))
          have HT4 := hide hT
          clear HT hT HR0 HR1 hlt hm
          go_wp2_with fail
          refine HKA.out.mono ?_
          rintro e W5 ⟨v1, ks, rfl, m1, r1, o1, b1⟩
          have HT5 := hide (HT4.out.later b1)
          have HKB := hide (valueKeys B (ga + 1) m fv W5 HT5.out.b (by omega))
          obtain ⟨pa, qa, rfl⟩ := o1.shape
          have HO1 := hide o1
          have HM1 := hide m1
          have HE1 := hide r1
          clear m1 r1 o1 b1 HKA HT4
          go_wp2_with fail
          refine HKB.out.mono ?_
          rintro e W6 ⟨v2, js, rfl, m2, r2, o2, b2⟩
          obtain rfl : js = ks := rise_eq r2 HE1.out (fun k => (m2 k).trans (HM1.out k).symm)
          obtain ⟨pb, qb, rfl⟩ := o2.shape
          have HT6 := hide (HT5.out.later b2)
          have HO2 := hide o2
          have HO3 : Hid (OwnK W6 wr.heap.size (.slice pa js.length qa) js) := own_tch (C := k3C) (S := fun _ => False) (Below.tch b2) HO1.out (fun _ _ e => e)
          have hjl : js.length ≤ 1000 := by
            have := HT6.out.a.klen HE1.out.nodup (fun k hk => (HM1.out k).1 hk)
            omega
          clear m2 r2 o2 b2 HKB HT5 HO1 HE1
          go_wp2_with fail
          go_loopw [102] (fun i wz => ∃ t : Nat, t ≤ js.length ∧ i = .int .i64 t ∧ Hid (Below W6.heap.size W6 wz)) (fun i _ => js.length - (intOf i).toNat)
          case atStart => exact ⟨0, by omega, rfl, Below.refl _ _⟩
          case round =>
            obtain ⟨t, ht, rfl, HB⟩ := hrel
            by_cases hlt : t < js.length
            · obtain ⟨κ, hκ⟩ : ∃ κ, js[t]? = some κ := ⟨_, List.getElem?_eq_getElem hlt⟩
              have k1 : OwnK wr _ (.slice pa js.length qa) js := own_tch (C := k3C) (S := fun _ => False) (Below.tch HB.out) HO3.out (fun _ _ e => e)
              have k2 : OwnK wr _ (.slice pb js.length qb) js := own_tch (C := k3C) (S := fun _ => False) (Below.tch HB.out) HO2.out (fun _ _ e => e)
              obtain ⟨g1, rfl, hq1⟩ : ∃ g, pa = some ⟨g, 0, none⟩ ∧ js.length ≤ qa := by
                rcases k1.slice with ⟨_, e⟩ | ⟨g, cp, e, h, _⟩
                · rw [e] at hlt; simp at hlt
                · simp at e; exact ⟨g, e.1, by omega⟩
              obtain ⟨g2, rfl, hq2⟩ : ∃ g, pb = some ⟨g, 0, none⟩ ∧ js.length ≤ qb := by
                rcases k2.slice with ⟨_, e⟩ | ⟨g, cp, e, h, _⟩
                · rw [e] at hlt; simp at hlt
                · simp at e; exact ⟨g, e.1, by omega⟩
              obtain ⟨x0, x1, x2⟩ := k1.at hκ
              obtain ⟨y0, y1, y2⟩ := k2.at hκ
              obtain ⟨u, hu⟩ : ∃ u, fv κ = some u := by
                have := (HM1.out κ).1 (List.mem_of_getElem? hκ)
                cases h : fv κ with
                | none => exact absurd h this
                | some u => exact ⟨u, rfl⟩
              have HA : Hid (Calls Tryz.prog 21 #[.pointer (some ⟨ga, 0, none⟩), .agg #[.int .i64 κ.g, .int .i64 κ.n, .int .i64 κ.i]] wr fun e w' => e = .returned (.tuple #[.int .i64 u, .bool true]) ∧ Below wr.heap.size wr w') := by
                have := (HT6.out.later HB.out).swap.getB κ
                rw [hu] at this
                exact this
              have HBV : Hid (∀ W, Below W6.heap.size W6 W → Calls Tryz.prog 21 #[.pointer (some ⟨ga + 1, 0, none⟩), .agg #[.int .i64 κ.g, .int .i64 κ.n, .int .i64 κ.i]] W fun e w' => e = .returned (.tuple #[.int .i64 u, .bool true]) ∧ Below W.heap.size W w') := fun W hW => by
                have := (HT6.out.later hW).getB κ
                rw [hu] at this
                exact this
              have hnk := neqK κ
              have hlq1 : t < qa := by omega
              have hlq2 : t < qb := by omega
              clear k1 k2 hκ hu
              go_wp2_with fail
              refine HA.out.mono ?_
              rintro e W7 ⟨rfl, b7⟩
              have HB7 := hide (HB.out.trans (b7.mono HB.out.size))
              have x0' := same_cell b7 x0
              have x1' := same_cell b7 x1
              have x2' := same_cell b7 x2
              have y0' := same_cell b7 y0
              have y1' := same_cell b7 y1
              have y2' := same_cell b7 y2
              clear b7 x0 x1 x2 y0 y1 y2 HB HA
              go_wp2_with fail
              refine (HBV.out _ HB7.out).mono ?_
              rintro e W8 ⟨rfl, b8⟩
              have HB8 := hide (HB7.out.trans (b8.mono HB7.out.size))
              have x0 := same_cell b8 x0'
              have x1 := same_cell b8 x1'
              have x2 := same_cell b8 x2'
              have y0 := same_cell b8 y0'
              have y1 := same_cell b8 y1'
              have y2 := same_cell b8 y2'
              clear b8 x0' x1' x2' y0' y1' y2' HB7 HBV
              go_wp2
              go_quiet (fail)
              go_wp2
              exact ⟨⟨t + 1, by omega, by simp, below_drewN HB8.out _⟩, by simp [intOf]; omega⟩
            · have HF := hide (HT6.out.bel.trans (HB.out.mono HT6.out.bel.size))
              clear HB HT6 HO2 HO3 HM1
              go_wp2
              go_ret
              exact ⟨rfl, HF.out⟩

theorem own : ownKnob Tryz.prog.godebug = none := by kernel_rfl
theorem laidOut : laidOutB Tryz.prog = true := by kernel_rfl

set_option maxRecDepth 100000 in
theorem lifted (os : Os) (started : os.Started) (H : Type) (enc : TypeId × Value → H) :
    ReturnsInHanded {} Tryz.checked os 7 .any (Rows.valueOrderSpec.pre6 enc Tryz.prog Tryz.f7 Rows.valueOrderRow.domain false) (Rows.valueOrderSpec.post enc Tryz.prog Tryz.f7 false true false false) := by
  refine returnsInHanded_of_change (C := Tryz.checked) own started (by kernel_rfl) Tryz.func7
    (ChangeSpec.witness6 (enc := enc) (C := Tryz.checked) false ⟨#[], #[.slice none 0 0, .slice none 0 0], []⟩ 8 (by kernel_rfl) (by kernel_rfl) (by kernel_rfl) (by kernel_rfl)) ?_
  intro W base args ds gs before hval0 hW hcnd _
  have hval : ∀ (j : Nat) t v, Tryz.f7.params[j]? = some t → args[j]? = some v → Value.okWide Tryz.prog W .any base t v := hval0
  have hW' := hW
  obtain ⟨p, q, hA0, hV, rfl, hfz, hnd⟩ := hW
  have hA : DataW.TrodAll enc Tryz.prog W 0 (fun _ => true) true Tryz.f7.params.toList args.toList ds p := hA0
  rw [Tryz.params7] at hA hval
  obtain ⟨v0, vs0, d0, ds0, p0, q0, hargs, rfl, rfl, h0, r0⟩ := trodAll_cons hA
  obtain ⟨v1, vs1, d1, ds1, p1, q1, rfl, rfl, rfl, h1, r1⟩ := trodAll_cons r0
  obtain ⟨rfl, rfl, rfl⟩ := trodAll_nil r1
  obtain rfl : args = #[v0, v1] := by cases args; simp_all
  obtain ⟨rfl, rfl⟩ := trodVars_none hV
  obtain ⟨a0, n0, c0, rfl⟩ := okWide_slice Tryz.underlying65 (hval 0 65 v0 rfl rfl)
  have k0 := h0
  have lt0 : ∀ x ∈ p0, x.block < W.heap.size := by obtain ⟨m, hm⟩ := k0; exact DataW.trod_lt m _ _ _ hm
  obtain ⟨z0, w0⟩ : ∃ zs, Row .i64 W a0 n0 c0 zs := by
    obtain ⟨fuel, hf⟩ := h0
    rcases open_ints Tryz.underlying65 Tryz.underlying3 (by kernel_rfl) hf with ⟨hcs, _⟩ | ⟨x, l, c, zs, hcs, _, hl, hm, hz, _, hcell, hwz⟩
    · simp [Value.cells] at hcs; obtain ⟨rfl, rfl, rfl⟩ := hcs; exact ⟨[], row_none _ _⟩
    · simp [Value.cells] at hcs; obtain ⟨rfl, rfl, rfl⟩ := hcs; exact ⟨_, row_some hl hm (by simpa using hz) hcell hwz⟩
  obtain ⟨a1, n1, c1, rfl⟩ := okWide_slice Tryz.underlying29 (hval 1 29 v1 rfl rfl)
  have k1 := h1
  have lt1 : ∀ x ∈ p1, x.block < W.heap.size := by obtain ⟨m, hm⟩ := k1; exact DataW.trod_lt m _ _ _ hm
  obtain ⟨z1, w1⟩ : ∃ zs, Row .i64 W a1 n1 c1 zs := by
    obtain ⟨fuel, hf⟩ := h1
    rcases open_ints Tryz.underlying29 Tryz.underlying2 (by kernel_rfl) hf with ⟨hcs, _⟩ | ⟨x, l, c, zs, hcs, _, hl, hm, hz, _, hcell, hwz⟩
    · simp [Value.cells] at hcs; obtain ⟨rfl, rfl, rfl⟩ := hcs; exact ⟨[], row_none _ _⟩
    · simp [Value.cells] at hcs; obtain ⟨rfl, rfl, rfl⟩ := hcs; exact ⟨_, row_some hl hm (by simpa using hz) hcell hwz⟩
  clear hA0 hval0
  refine (walk a0 n0 c0 z0 a1 n1 c1 z1 W w0 w1).mono fun e W' ⟨he, bel⟩ => ?_
  subst he
  exact ⟨_, rfl, _, _, _, [], _, [], hW', trodAll_mk1 (shut_bool Tryz.underlying4 _), (trodAll_cons_mk (Below.trod laidOut (by kernel_rfl) (of_decide_eq_true (by kernel_rfl)) k0 bel lt0) (trodAll_cons_mk (Below.trod laidOut (by kernel_rfl) (of_decide_eq_true (by kernel_rfl)) k1 bel lt1) trodAll_mk0)), rfl, bel.frame _, fun h => by cases h⟩

theorem over : Rows.valueOrderRow.holds Tryz.pinned (OpenSpec.ofChange Rows.valueOrderSpec) :=
  OpenClaim.holds_of_wide 7 Tryz.f7 rfl rfl rfl rfl rfl rfl rfl ⟨rfl, rfl, rfl, rfl, rfl⟩ rfl rfl rfl rfl rfl (by kernel_rfl) Tryz.func7 (by kernel_rfl)
    (of_decide_eq_true (by kernel_rfl)) (by unfold Func.isWrapper; first | (rw [if_pos (by decide +kernel)]; kernel_rfl) | (rw [if_neg (by decide +kernel)]; exact ⟨rfl, rfl⟩))
    (fun os started H enc _ => lifted os started H enc)

theorem proved : Rows.ValueOrderSaid := over
#print axioms proved
end Go.Proofs.YtkchfbigkecodaaGreat.valueOrder
