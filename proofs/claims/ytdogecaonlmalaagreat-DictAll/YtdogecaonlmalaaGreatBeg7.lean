/- The second group's begun answers true, in whatever world: what it holds on its way. -/
import Derived.Test.YtdogecaonlmalaaGreatStat
import Derived.Test.YtdogecaonlmalaaGreatBegun
namespace Go.Proofs.YtdogecaonlmalaaGreat
open Go.RowKit Go.MapKept Go.ChangeMaps

def kB : K3 := ⟨(1, 0, 5), by decide, by decide, by decide⟩
theorem k3E_kB : k3E kB = .agg #[.int .i64 1, .int .i64 0, .int .i64 5] := rfl
set_option maxRecDepth 100000 in
theorem key105 (w : World) : Calls Tryz.prog 15 #[.int .i64 1, .int .i64 0, .int .i64 5] w fun e w' => e = .returned (k3E kB) ∧ Below w.heap.size w w' := by
  go_enter Tryz.func15, Tryz.ntmps15
  go_wp2
  have eb : bits BinOp.and IntKind.i64 0 1 = 0 := by decide
  rw [eb]
  obtain ⟨q0, q1, q2⟩ := cells_three (heap_alloc_new w (.cells #[.int .i64 1, .int .i64 0, .int .i64 5] 28))
  refine bodyPost_ret (v := k3E kB) (by simp [results, Tryz.results15, go_sem, q0, q1, q2, k3E, kB, K3.g, K3.n, K3.i]) rfl ⟨rfl, below_alloc _ _ _ (Nat.le_refl _)⟩
set_option maxRecDepth 100000 in
theorem Begun_true (w : World) : Calls Tryz.prog 21 #[] w fun e w' => e = .returned (.bool true) ∧ Below w.heap.size w w' := by
  go_enter Tryz.func21, Tryz.ntmps21
  go_wp2_with fail
  refine (begun_true _).mono ?_
  rintro e w1 ⟨rfl, hb1⟩
  have HB1 := hide hb1
  clear hb1
  go_wp2
  go_ret
  exact ⟨rfl, HB1.out⟩

/-- The changes that begun does. -/
def xsB : List Mq := [⟨1, kB, 0, 4⟩, ⟨3, kB, 0, 6⟩]
def aB : Ab := ⟨updK (fun _ => none) kB (some 4), updR (fun _ => []) kB [6], fun _ => []⟩
theorem runB : runQ ab0 xsB = aB := by
  simp [runQ, xsB, doQ, ab0, aB]
theorem mayBB : (xsB.map Mq.m).all mayB = true := by decide
theorem roomBB : roomB ab0.L (fun _ => none) xsB = true := by
  simp [xsB, roomB, lgS, curL, ab0]
theorem abOKB (k : Nat) : AbOK (runQ ab0 (xsB.take k)) := by
  match k with
  | 0 => exact fun b => ⟨List.Pairwise.nil, fun p hp => by simp [runQ, ab0] at hp⟩
  | 1 => exact fun b => ⟨by simp [runQ, xsB, doQ, ab0, RiseF], fun p hp => by simp [runQ, xsB, doQ, ab0] at hp⟩
  | k + 2 =>
    have e : xsB.take (k + 2) = xsB := List.take_of_length_le (by simp [xsB])
    rw [e, runB]
    exact fun b => ⟨List.Pairwise.nil, fun p hp => by simp [aB] at hp⟩
theorem chB : ∀ x ∈ xsB, ChOK x := by
  intro x hx
  simp [xsB] at hx
  rcases hx with rfl | rfl
  · exact chOK_1 _ _ _
  · exact chOK_3 _ _ _
theorem aB_len (k : K3) : (aB.L k).length ≤ 100 ∧ (aB.D k).length ≤ 100 := by
  refine ⟨?_, by simp [aB]⟩
  simp only [aB, updR]
  split <;> simp
theorem kofB {ks : List K3} (h : Kof aB ks) : ks = [kB] := by
  refine rise_eq h.1 (List.pairwise_singleton _ _) (fun k => ?_)
  rw [h.2 k, List.mem_singleton]
  by_cases e : k = kB
  · simp [e, aB, updK]
  · simp [e, aB, updK, updR]
theorem aB_ne : aB ≠ ab0 := by
  intro h
  have := congrFun (congrArg Ab.V h) kB
  simp [aB, ab0, updK] at this

/-- The two changes, as they lie. -/
theorem msB (w : World) : Ms (w.alloc (.cells #[.int .i64 1, .int .i64 1, .int .i64 0, .int .i64 5, .int .i64 0, .int .i64 4, .int .i64 3, .int .i64 1, .int .i64 0, .int .i64 5, .int .i64 0, .int .i64 6] 60)) (some ⟨w.heap.size, 0, none⟩) 2 (xsB.map Mq.m) := by
  have hh := heap_alloc_new w (.cells #[.int .i64 1, .int .i64 1, .int .i64 0, .int .i64 5, .int .i64 0, .int .i64 4, .int .i64 3, .int .i64 1, .int .i64 0, .int .i64 5, .int .i64 0, .int .i64 6] 60)
  generalize w.alloc (.cells #[.int .i64 1, .int .i64 1, .int .i64 0, .int .i64 5, .int .i64 0, .int .i64 4, .int .i64 3, .int .i64 1, .int .i64 0, .int .i64 5, .int .i64 0, .int .i64 6] 60) = W at hh
  refine ⟨rfl, fun _ => ⟨_, 0, rfl, fun i m hi => ?_⟩⟩
  match i, hi with
  | 0, hi => simp [xsB, Mq.m, kB, K3.g, K3.n, K3.i] at hi; subst hi; simp [World.cell?, hh]
  | 1, hi => simp [xsB, Mq.m, kB, K3.g, K3.n, K3.i] at hi; subst hi; simp [World.cell?, hh]
  | i + 2, hi => simp [xsB] at hi

/-- What is held of the list and the dictionary: they stay. -/
structure LD (W : World) (gl gd a b c : Nat) : Prop where
  l : LiS W (fun k => k = gl ∨ (a ≤ k ∧ k < b)) gl (updR (fun _ => []) kB [1, 2]) 1
  d : DiS W (fun k => k = gd ∨ (b ≤ k ∧ k < c)) gd (updR (fun _ => []) kB [(3, 9)]) 1
theorem LD.later {W W' : World} {gl gd a b c : Nat} (h : LD W gl gd a b c) (hb : Below W.heap.size W W') : LD W' gl gd a b c := ⟨h.l.later hb, h.d.later hb⟩

/-- All that is held to the end. -/
structure Hd7 (w W : World) (O : Nat → Prop) (q n4 n5 n6 gc : Nat) : Prop where
  q : W.heap[q]? = some (.cells #[.int .i64 1, .int .i64 0, .int .i64 5] 28)
  ld : LD W (w.heap.size + 1) (w.heap.size + 1 + 1) n4 n5 n6
  s : AbS W O (w.heap.size + 1 + 1 + 1 + 1 + 1 + 1) (w.heap.size + 1 + 1 + 1) (w.heap.size + 1 + 1 + 1 + 1) (w.heap.size + 1 + 1 + 1 + 1 + 1) aB 2
  b : Below w.heap.size w W
  c : W.cell? ⟨gc, 3, none⟩ = some (.bool true)
theorem Hd7.later {w W W' : World} {O : Nat → Prop} {q n4 n5 n6 gc : Nat} (h : Hd7 w W O q n4 n5 n6 gc) (hb : Below W.heap.size W W') : Hd7 w W' O q n4 n5 n6 gc :=
  ⟨boxed_old h.q hb, h.ld.later hb, StaS.later h.s hb, h.b.trans (hb.mono h.b.size), same_cell hb h.c⟩
theorem Hd7.list {w W : World} {O : Nat → Prop} {q n4 n5 n6 gc : Nat} (h : Hd7 w W O q n4 n5 n6 gc) : Calls Tryz.prog 22 #[.pointer (some ⟨w.heap.size + 1, 0, none⟩), .agg #[.int .i64 1, .int .i64 0, .int .i64 5]] W fun e w' => ∃ p r, e = .returned (.slice p 2 r) ∧ Below W.heap.size W w' := by
  refine (listList _ _ 1 _ kB W h.ld.l (by simp [updR])).mono ?_
  rintro e w' ⟨v, r1, r2, r3⟩
  obtain ⟨p, r, rfl, _⟩ := RowI.slice r2.row
  exact ⟨p, r, r1.trans (by simp [updR]), r3⟩
theorem Hd7.dict {w W : World} {O : Nat → Prop} {q n4 n5 n6 gc : Nat} (h : Hd7 w W O q n4 n5 n6 gc) : Calls Tryz.prog 9 #[.pointer (some ⟨w.heap.size + 1 + 1, 0, none⟩), .agg #[.int .i64 1, .int .i64 0, .int .i64 5]] W fun e w' => ∃ p r, e = .returned (.slice p 1 r) ∧ Below W.heap.size W w' := by
  refine (dictDict _ _ 1 _ kB W h.ld.d (by simp [updR])).mono ?_
  rintro e w' ⟨v, r1, r2, r3⟩
  obtain ⟨p, r, rfl, _⟩ := RowF.rd r2.row
  exact ⟨p, r, r1.trans (by simp [updR]), r3⟩
theorem Hd7.slist {w W : World} {O : Nat → Prop} {q n4 n5 n6 gc : Nat} (h : Hd7 w W O q n4 n5 n6 gc) : Calls Tryz.prog 22 #[.pointer (some ⟨(w.heap.size + 1 + 1 + 1 + 1), 0, none⟩), .agg #[.int .i64 1, .int .i64 0, .int .i64 5]] W fun e w' => ∃ p r, e = .returned (.slice p 1 r) ∧ Below W.heap.size W w' := by
  obtain ⟨X, hX⟩ := StaS.rdL h.s
  refine (listList X _ 2 _ kB W hX (aB_len kB).1).mono ?_
  rintro e w' ⟨v, r1, r2, r3⟩
  obtain ⟨p, r, rfl, _⟩ := RowI.slice r2.row
  exact ⟨p, r, r1.trans (by simp [aB, updR]), r3⟩

theorem Hd7.copy {w W : World} {O : Nat → Prop} {q n4 n5 n6 gc : Nat} (h : Hd7 w W O q n4 n5 n6 gc) : Calls Tryz.prog 24 #[.pointer (some ⟨(w.heap.size + 1 + 1 + 1 + 1 + 1 + 1), 0, none⟩)] W fun e w' => e = .returned (.pointer (some ⟨W.heap.size + 1 + 1 + 1, 0, none⟩)) ∧ Below W.heap.size W w' ∧
    Hid (Calls Tryz.prog 23 #[.pointer (some ⟨(w.heap.size + 1 + 1 + 1 + 1 + 1 + 1), 0, none⟩), .pointer (some ⟨W.heap.size + 1 + 1 + 1, 0, none⟩)] w' fun e w2 => e = .returned (.bool true) ∧ Below w'.heap.size w' w2) := by
  refine (stateCopy O _ _ _ _ 2 aB W h.s (by omega) (fun k => (aB_len k).1) (fun k => (aB_len k).2) (Or.inr (fun k => rfl)) (fun k => List.Pairwise.nil)).mono ?_
  rintro e w' ⟨r1, r2, r3⟩
  refine ⟨r1, r3, ?_⟩
  refine Calls.mono (stateEq O _ _ _ _ _ 2 _ _ _ _ 2 aB aB w' (h.later r3).s r2 (by omega) (by omega) (fun k => (aB_len k).1) (fun k => (aB_len k).2) (fun k => (aB_len k).1) (fun k => (aB_len k).2)) ?_
  rintro e w2 ⟨r, q1, q2, q3⟩
  rw [q2.2 rfl] at q1
  exact ⟨q1, q3⟩
theorem Hd7.new {w W : World} {O : Nat → Prop} {q n4 n5 n6 gc : Nat} (h : Hd7 w W O q n4 n5 n6 gc) : Calls Tryz.prog 14 #[] W fun e w' => e = .returned (.pointer (some ⟨W.heap.size + 1 + 1 + 1, 0, none⟩)) ∧ Below W.heap.size W w' ∧
    Hid (Calls Tryz.prog 23 #[.pointer (some ⟨(w.heap.size + 1 + 1 + 1 + 1 + 1 + 1), 0, none⟩), .pointer (some ⟨W.heap.size + 1 + 1 + 1, 0, none⟩)] w' fun e w2 => e = .returned (.bool false) ∧ Below w'.heap.size w' w2) := by
  refine (stateNew W).mono ?_
  rintro e w' ⟨r1, rfl⟩
  have hbN := newSt_below W
  have hnew : AbS (newSt W) (fun k => W.heap.size ≤ k) (W.heap.size + 1 + 1 + 1) W.heap.size (W.heap.size + 1) (W.heap.size + 1 + 1) ab0 0 := StaS.new W (fun k => W.heap.size ≤ k) (fun k hk => hk)
  refine ⟨r1, hbN, ?_⟩
  refine Calls.mono (stateEq O _ _ _ _ _ 2 _ _ _ _ 0 aB ab0 (newSt W) (h.later hbN).s hnew (by omega) (by omega) (fun k => (aB_len k).1) (fun k => (aB_len k).2) (fun k => by simp [ab0]) (fun k => by simp [ab0])) ?_
  rintro e w2 ⟨r, q1, q2, q3⟩
  rw [Bool.eq_false_iff.2 (fun hh => aB_ne (q2.1 hh))] at q1
  exact ⟨q1, q3⟩
theorem Hd7.cells {w w' : World} {O : Nat → Prop} {q n4 n5 n6 gc : Nat} (h : Hd7 w w' O q n4 n5 n6 gc) : w'.cell? ⟨q, 0, none⟩ = some (.int .i64 1) ∧ w'.cell? ⟨q, 1, none⟩ = some (.int .i64 0) ∧ w'.cell? ⟨q, 2, none⟩ = some (.int .i64 5) ∧ w'.cell? ⟨(w.heap.size + 1 + 1 + 1 + 1 + 1 + 1), 1, none⟩ = some (.pointer (some ⟨(w.heap.size + 1 + 1 + 1 + 1), 0, none⟩)) ∧ w'.cell? ⟨gc, 3, none⟩ = some (.bool true) :=
  let x := cells_three h.q
  let c := sta_cells (StaS.obj h.s)
  ⟨x.1, x.2.1, x.2.2, c.2.1, h.c⟩

set_option maxRecDepth 100000 in
set_option maxHeartbeats 8000000 in
theorem begun7_true (w : World) :
    Calls Tryz.prog 4 #[] w fun e w' => e = .returned (.bool true) ∧ Below w.heap.size w w' := by
  go_enter Tryz.func4, Tryz.ntmps4
  go_wp2_with fail
  refine (valueNew _).mono ?_
  rintro e w1 ⟨rfl, rfl⟩
  go_wp2_with fail
  refine (listNew _).mono ?_
  rintro e w1 ⟨rfl, rfl⟩
  go_wp2_with fail
  refine (dictNew _).mono ?_
  rintro e w1 ⟨rfl, rfl⟩
  go_wp2_with fail
  refine (stateNew _).mono ?_
  rintro e w1 ⟨rfl, rfl⟩
  have hv := VlS.new w (fun k => k = w.heap.size) rfl
  have hl := RmS.new (T := 82) (e := 2) (sz := 1) (C := i64C) (w.alloc (vlObj none)) (fun k => k = w.heap.size + 1) (by simp)
  have hd := RmS.new (T := 69) (e := 43) (sz := 2) (C := fdC) ((w.alloc (vlObj none)).alloc (rmObj 82 none)) (fun k => k = w.heap.size + 1 + 1) (by simp)
  have e1 : (w.alloc (vlObj none)).heap.size = w.heap.size + 1 := by simp
  have e2 : ((w.alloc (vlObj none)).alloc (rmObj 82 none)).heap.size = w.heap.size + 1 + 1 := by simp
  have e3 : (((w.alloc (vlObj none)).alloc (rmObj 82 none)).alloc (rmObj 69 none)).heap.size = w.heap.size + 1 + 1 + 1 := by simp
  rw [e1] at hl
  rw [e2] at hd
  have b1 := below_alloc w (vlObj none) w.heap.size (Nat.le_refl _)
  have b2 := below_alloc (w.alloc (vlObj none)) (rmObj 82 none) _ (Nat.le_refl _)
  have b3 := below_alloc ((w.alloc (vlObj none)).alloc (rmObj 82 none)) (rmObj 69 none) _ (Nat.le_refl _)
  have hs : AbS (newSt (((w.alloc (vlObj none)).alloc (rmObj 82 none)).alloc (rmObj 69 none))) (fun k => w.heap.size + 1 + 1 + 1 ≤ k) _ _ _ _ ab0 0 := StaS.new (((w.alloc (vlObj none)).alloc (rmObj 82 none)).alloc (rmObj 69 none)) (fun k => w.heap.size + 1 + 1 + 1 ≤ k) (fun k hk => by rw [e3] at hk; exact hk)
  have b4 := newSt_below (((w.alloc (vlObj none)).alloc (rmObj 82 none)).alloc (rmObj 69 none))
  have e4 := newSt_size (((w.alloc (vlObj none)).alloc (rmObj 82 none)).alloc (rmObj 69 none))
  rw [e3] at e4 hs
  have HV := hide (((hv.later b2).later b3).later b4)
  have HL := hide ((hl.later b3).later b4)
  have HD := hide (hd.later b4)
  have HS := hide hs
  have HSZ := hide e4
  have HB := hide (b1.trans ((b2.trans ((b3.trans (b4.mono (by rw [e3, e2]; omega))).mono (by rw [e2, e1]; omega))).mono (by rw [e1]; omega)))
  clear hv hl hd hs b1 b2 b3 b4 e4
  rw [e3]
  clear e1 e2 e3
  generalize newSt (((w.alloc (vlObj none)).alloc (rmObj 82 none)).alloc (rmObj 69 none)) = W0 at *
  have HS0 : Hid (AbS W0 (fun k => w.heap.size + 3 ≤ k ∧ k < w.heap.size + 7) (w.heap.size + 1 + 1 + 1 + 1 + 1 + 1) (w.heap.size + 1 + 1 + 1) (w.heap.size + 1 + 1 + 1 + 1) (w.heap.size + 1 + 1 + 1 + 1 + 1) ab0 0) :=
    StaS.wide HS.out (fun k hk hl => by have := HSZ.out; exact ⟨by omega, by omega⟩)
  obtain ⟨c0, c1, c2⟩ := sta_cells (StaS.obj HS0.out)
  clear HS
  go_wp2_with fail
  refine (key105 _).mono ?_
  rw [k3E_kB]
  rintro e w2 ⟨rfl, hb⟩
  have hb2 := below_alloc w2 (.cells #[.int .i64 1, .int .i64 0, .int .i64 5] 28) w2.heap.size (Nat.le_refl _)
  have hbb := hb.trans (hb2.mono hb.size)
  have HQ : Hid ((w2.alloc (.cells #[.int .i64 1, .int .i64 0, .int .i64 5] 28)).heap[w2.heap.size]? = some (.cells #[.int .i64 1, .int .i64 0, .int .i64 5] 28)) := heap_alloc_new w2 _
  have HQS : Hid (w2.heap.size < (w2.alloc (.cells #[.int .i64 1, .int .i64 0, .int .i64 5] 28)).heap.size ∧ w.heap.size + 7 ≤ w2.heap.size) := by
    have := hb.size
    have := HSZ.out
    exact ⟨by simp, by omega⟩
  have HV1 := hide (HV.out.later hbb)
  have HL1 := hide (HL.out.later hbb)
  have HD1 := hide (HD.out.later hbb)
  have HS1 := hide (StaS.later HS0.out hbb)
  have HB1 := hide (HB.out.trans (hbb.mono HB.out.size))
  clear hb hb2 hbb HV HL HD HS0 HB c0 c1 c2 HSZ
  go_wp2_with fail
  generalize w2.alloc (.cells #[.int .i64 1, .int .i64 0, .int .i64 5] 28) = W1 at *
  generalize w2.heap.size = q at *
  obtain ⟨x0, x1, x2⟩ := cells_three HQ.out
  have HCS : Hid (Calls Tryz.prog 16 #[.pointer (some ⟨w.heap.size, 0, none⟩), .agg #[.int .i64 1, .int .i64 0, .int .i64 5], .int .i64 7] W1 fun e w' => e = .returned (.tuple #[]) ∧ VlS w' (fun k => k = w.heap.size ∨ W1.heap.size ≤ k) w.heap.size (updK (fun _ => none) kB (some 7)) 1 ∧ Tch (fun k => k = w.heap.size ∨ W1.heap.size ≤ k) W1 w') :=
    valueSet (fun k => k = w.heap.size ∨ W1.heap.size ≤ k) w.heap.size 0 (fun _ => none) kB 7 W1 (HV1.out.sub (fun k hk _ => Or.inl hk)) (fun k hk => Or.inr hk)
  refine HCS.out.mono ?_
  rintro e W2 ⟨rfl, r2, r3⟩
  have hq2 := r3.old (g := q) HQ.out (by have := HQS.out; omega)
  have HL2 := hide (HL1.out.tch r3 (fun k hk hl => by have := HQS.out; omega))
  have HD2 := hide (HD1.out.tch r3 (fun k hk hl => by have := HQS.out; omega))
  have HS2 := hide (StaS.tch HS1.out r3 (fun k hk hl => by have := HQS.out; omega))
  have HB2 := hide (HB1.out.trans (r3.below (B := w.heap.size) (fun k hk e => by have := HQS.out; omega) HB1.out.size))
  have HQ2 := hide hq2
  have HQS2 : Hid (q < W2.heap.size ∧ w.heap.size + 7 ≤ q) := by have := HQS.out; have := r3.size; exact ⟨by omega, by omega⟩
  have HCG : Hid (Calls Tryz.prog 17 #[.pointer (some ⟨w.heap.size, 0, none⟩), .agg #[.int .i64 1, .int .i64 0, .int .i64 5]] W2 fun e w' => e = .returned (.tuple #[.int .i64 7, .bool true]) ∧ Below W2.heap.size W2 w') := by
    have := valueGet _ w.heap.size 1 _ kB W2 r2
    simp only [updK, if_true, Option.getD_some, Option.isSome_some] at this
    exact this
  clear hq2 r2 r3 HCS HV1 HL1 HD1 HS1 HB1 HQ HQS x0 x1 x2
  obtain ⟨x0, x1, x2⟩ := cells_three HQ2.out
  go_wp2_with fail
  refine HCG.out.mono ?_
  rintro e W3 ⟨rfl, hb3⟩
  have hb4 := below_alloc W3 (.cells #[.int .i64 1, .int .i64 2] 2) W3.heap.size (Nat.le_refl _)
  have hb34 := hb3.trans (hb4.mono hb3.size)
  have HQ4 := hide (boxed_old HQ2.out hb34)
  have HQ3 := hide (boxed_old HQ2.out hb3)
  have HL4 := hide (HL2.out.later hb34)
  have HD4 := hide (HD2.out.later hb34)
  have HS4 := hide (StaS.later HS2.out hb34)
  have HB4 := hide (HB2.out.trans (hb34.mono HB2.out.size))
  have HQS4 : Hid (q < (W3.alloc (.cells #[.int .i64 1, .int .i64 2] 2)).heap.size ∧ w.heap.size + 7 ≤ q) := by have := HQS2.out; have := hb34.size; exact ⟨by omega, by omega⟩
  have HRD : Hid (Rd (W3.alloc (.cells #[.int .i64 1, .int .i64 2] 2)) (some ⟨W3.heap.size, 0, none⟩) 2 2 [1, 2]) := by
    have hh := heap_alloc_new W3 (.cells #[.int .i64 1, .int .i64 2] 2)
    generalize W3.alloc (.cells #[.int .i64 1, .int .i64 2] 2) = W at hh
    refine ⟨rfl, fun e => (by cases e), fun a ha j u hj => ?_, Nat.le_refl _⟩
    cases ha
    rw [add_none]
    match j, hj with
    | 0, hj => simp at hj; subst hj; simp [World.cell?, hh]
    | 1, hj => simp at hj; subst hj; simp [World.cell?, hh]
    | j + 2, hj => simp at hj
  clear hb3 hb4 hb34 HCG HL2 HD2 HS2 HB2 HQ2 HQS2 x0 x1 x2
  obtain ⟨x0, x1, x2⟩ := cells_three HQ3.out
  go_wp2_with fail
  generalize W3.alloc (.cells #[.int .i64 1, .int .i64 2] 2) = W4 at *
  have HCP : Hid (Calls Tryz.prog 18 #[.pointer (some ⟨w.heap.size + 1, 0, none⟩), .agg #[.int .i64 1, .int .i64 0, .int .i64 5], .slice (some ⟨W3.heap.size, 0, none⟩) 2 2] W4 fun e w' => e = .returned (.int .i64 0) ∧ LiS w' (fun k => k = w.heap.size + 1 ∨ W4.heap.size ≤ k) (w.heap.size + 1) (updR (fun _ => []) kB [1, 2]) 1 ∧ Tch (fun k => k = w.heap.size + 1 ∨ W4.heap.size ≤ k) W4 w') :=
    listPush (fun k => k = w.heap.size + 1 ∨ W4.heap.size ≤ k) (w.heap.size + 1) 0 (fun _ => []) kB _ 2 2 [1, 2] W4 (HL4.out.sub (fun k hk _ => Or.inl hk)) (fun k hk => Or.inr hk) HRD.out (by simp)
  refine HCP.out.mono ?_
  rintro e W5 ⟨rfl, r2, r3⟩
  have HQ5 := hide (r3.old (g := q) HQ4.out (by have := HQS4.out; omega))
  have HL5 : Hid (LiS W5 (fun k => k = w.heap.size + 1 ∨ (W4.heap.size ≤ k ∧ k < W5.heap.size)) (w.heap.size + 1) (updR (fun _ => []) kB [1, 2]) 1) := r2.sub (fun k hk hl => hk.imp id (fun h => ⟨h, hl⟩))
  have HD5 := hide (HD4.out.tch r3 (fun k hk hl => by have := HQS4.out; omega))
  have HS5 := hide (StaS.tch HS4.out r3 (fun k hk hl => by have := HQS4.out; omega))
  have HB5 := hide (HB4.out.trans (r3.below (B := w.heap.size) (fun k hk e => by have := HQS4.out; omega) HB4.out.size))
  have HQS5 : Hid (q < W4.heap.size ∧ W4.heap.size ≤ W5.heap.size ∧ w.heap.size + 7 ≤ q) := by have := HQS4.out; have := r3.size; exact ⟨by omega, by omega, by omega⟩
  clear r2 r3 HCP HL4 HD4 HS4 HB4 HQ4 HQS4 HRD HQ3 x0 x1 x2
  obtain ⟨x0, x1, x2⟩ := cells_three HQ5.out
  go_wp2_with fail
  have HCF : Hid (Calls Tryz.prog 6 #[.pointer (some ⟨w.heap.size + 1 + 1, 0, none⟩), .agg #[.int .i64 1, .int .i64 0, .int .i64 5], .int .i64 3, .int .i64 9] W5 fun e w' => e = .returned (.int .i64 0) ∧ DiS w' (fun k => k = w.heap.size + 1 + 1 ∨ W5.heap.size ≤ k) (w.heap.size + 1 + 1) (updR (fun _ => []) kB [(3, 9)]) 1 ∧ Tch (fun k => k = w.heap.size + 1 + 1 ∨ W5.heap.size ≤ k) W5 w') :=
    dictPut0 (fun k => k = w.heap.size + 1 + 1 ∨ W5.heap.size ≤ k) (w.heap.size + 1 + 1) 0 (fun _ => []) kB 3 9 W5 (HD5.out.sub (fun k hk _ => Or.inl hk)) (fun k hk => Or.inr hk) rfl (by omega) (by omega)
  refine HCF.out.mono ?_
  rintro e W6 ⟨rfl, r2, r3⟩
  have HQ6 := hide (r3.old (g := q) HQ5.out (by have := HQS5.out; omega))
  have HD6 : Hid (DiS W6 (fun k => k = w.heap.size + 1 + 1 ∨ (W5.heap.size ≤ k ∧ k < W6.heap.size)) (w.heap.size + 1 + 1) (updR (fun _ => []) kB [(3, 9)]) 1) := r2.sub (fun k hk hl => hk.imp id (fun h => ⟨h, hl⟩))
  have HL6 := hide (HL5.out.tch r3 (fun k hk hl => by have := HQS5.out; omega))
  have HS6 := hide (StaS.tch HS5.out r3 (fun k hk hl => by have := HQS5.out; omega))
  have HB6 := hide (HB5.out.trans (r3.below (B := w.heap.size) (fun k hk e => by have := HQS5.out; omega) HB5.out.size))
  have HQS6 : Hid (q < W4.heap.size ∧ W4.heap.size ≤ W5.heap.size ∧ W5.heap.size ≤ W6.heap.size ∧ w.heap.size + 7 ≤ q) := by have := HQS5.out; have := r3.size; exact ⟨by omega, by omega, by omega, by omega⟩
  clear r2 r3 HCF HL5 HD5 HS5 HB5 HQ5 HQS5 x0 x1 x2
  obtain ⟨x0, x1, x2⟩ := cells_three HQ6.out
  have hb7 := below_alloc W6 (.cells #[.int .i64 1, .int .i64 1, .int .i64 0, .int .i64 5, .int .i64 0, .int .i64 4, .int .i64 3, .int .i64 1, .int .i64 0, .int .i64 5, .int .i64 0, .int .i64 6] 60) W6.heap.size (Nat.le_refl _)
  have HQ7 := hide (boxed_old HQ6.out hb7)
  have HL7 := hide (HL6.out.later hb7)
  have HD7 := hide (HD6.out.later hb7)
  have HS7 := hide (StaS.later HS6.out hb7)
  have HB7 := hide (HB6.out.trans (hb7.mono HB6.out.size))
  have HMS := hide (msB W6)
  have HQS7 : Hid ((W6.alloc (.cells #[.int .i64 1, .int .i64 1, .int .i64 0, .int .i64 5, .int .i64 0, .int .i64 4, .int .i64 3, .int .i64 1, .int .i64 0, .int .i64 5, .int .i64 0, .int .i64 6] 60)).heap.size = W6.heap.size + 1) := by show _ = _; simp
  clear hb7 HL6 HD6 HS6 HB6
  go_wp2_with fail
  generalize W6.alloc (.cells #[.int .i64 1, .int .i64 1, .int .i64 0, .int .i64 5, .int .i64 0, .int .i64 4, .int .i64 3, .int .i64 1, .int .i64 0, .int .i64 5, .int .i64 0, .int .i64 6] 60) = W7 at *
  have HCD : Hid (Calls Tryz.prog 19 #[.pointer (some ⟨(w.heap.size + 1 + 1 + 1 + 1 + 1 + 1), 0, none⟩), .slice (some ⟨W6.heap.size, 0, none⟩) 2 2] W7 fun e w' => e = .returned (.int .i64 0) ∧ AbS w' (fun k => (w.heap.size + 3 ≤ k ∧ k < w.heap.size + 7) ∨ W7.heap.size ≤ k) (w.heap.size + 1 + 1 + 1 + 1 + 1 + 1) (w.heap.size + 1 + 1 + 1) (w.heap.size + 1 + 1 + 1 + 1) (w.heap.size + 1 + 1 + 1 + 1 + 1) aB 2 ∧ Tch (fun k => (w.heap.size + 3 ≤ k ∧ k < w.heap.size + 7) ∨ W7.heap.size ≤ k) W7 w') := by
    have := do_ok (fun k => (w.heap.size + 3 ≤ k ∧ k < w.heap.size + 7) ∨ W7.heap.size ≤ k) (w.heap.size + 1 + 1 + 1 + 1 + 1 + 1) (w.heap.size + 1 + 1 + 1) (w.heap.size + 1 + 1 + 1 + 1) (w.heap.size + 1 + 1 + 1 + 1 + 1) 0 ab0 (some ⟨W6.heap.size, 0, none⟩) 2 2 xsB W7 (StaS.wide HS7.out (fun k hk _ => Or.inl hk)) (fun k => by simp [ab0]) HMS.out (by omega) (fun k hk => Or.inr hk) (fun b o e => by
      cases e
      have := HQS7.out
      have := HQS6.out
      omega) chB abOKB mayBB roomBB
    rw [runB] at this
    exact this
  refine HCD.out.mono ?_
  rintro e W8 ⟨rfl, r2, r3⟩
  have HQ8 := hide (r3.old (g := q) HQ7.out (by have := HQS6.out; have := HQS7.out; omega))
  have HLD8 : Hid (LD W8 (w.heap.size + 1) (w.heap.size + 1 + 1) W4.heap.size W5.heap.size W6.heap.size) :=
    ⟨HL7.out.tch r3 (fun k hk hl => by have := HQS6.out; have := HQS7.out; omega), HD7.out.tch r3 (fun k hk hl => by have := HQS6.out; have := HQS7.out; omega)⟩
  have HS8 := hide r2
  have HB8 := hide (HB7.out.trans (r3.below (B := w.heap.size) (fun k hk e => by have := HB7.out.size; omega) HB7.out.size))
  clear r2 r3 HCD HL7 HD7 HS7 HB7 HQ7 HQ6 HQS6 HQS7 HMS x0 x1 x2
  obtain ⟨x0, x1, x2⟩ := cells_three HQ8.out
  obtain ⟨c0, c1, c2⟩ := sta_cells (StaS.obj HS8.out)
  generalize W4.heap.size = n4 at *
  generalize W5.heap.size = n5 at *
  generalize W6.heap.size = n6 at *
  generalize (fun k => (w.heap.size + 3 ≤ k ∧ k < w.heap.size + 7) ∨ W7.heap.size ≤ k) = O8 at *
  have HCV : Hid (Calls Tryz.prog 17 #[.pointer (some ⟨(w.heap.size + 1 + 1 + 1), 0, none⟩), .agg #[.int .i64 1, .int .i64 0, .int .i64 5]] W8.drew fun e w' => e = .returned (.tuple #[.int .i64 4, .bool true]) ∧ Hid (Below W8.heap.size W8 w') ∧ (w'.cell? ⟨(w.heap.size + 1 + 1 + 1 + 1 + 1 + 1), 0, none⟩ = some (.pointer (some ⟨(w.heap.size + 1 + 1 + 1), 0, none⟩)) ∧ w'.cell? ⟨q, 0, none⟩ = some (.int .i64 1) ∧ w'.cell? ⟨q, 1, none⟩ = some (.int .i64 0) ∧ w'.cell? ⟨q, 2, none⟩ = some (.int .i64 5))) := by
    have hD := (Below.refl W8.heap.size W8).drew
    obtain ⟨X, hX⟩ := StaS.rdV (StaS.later HS8.out hD)
    refine (valueGet X (w.heap.size + 1 + 1 + 1) 2 aB.V kB _ hX).mono ?_
    rintro e w' ⟨r1, r2⟩
    have hT := hD.trans (r2.mono hD.size)
    exact ⟨r1.trans (by simp [aB, updK]), hT, same_cell hT c0, same_cell hT x0, same_cell hT x1, same_cell hT x2⟩
  clear c1 c2
  go_wp2
  have s0d : W8.drew.cell? ⟨(w.heap.size + 1 + 1 + 1 + 1 + 1 + 1), 0, none⟩ = some (.pointer (some ⟨(w.heap.size + 1 + 1 + 1), 0, none⟩)) ∧ W8.drew.cell? ⟨q, 0, none⟩ = some (.int .i64 1) ∧ W8.drew.cell? ⟨q, 1, none⟩ = some (.int .i64 0) ∧ W8.drew.cell? ⟨q, 2, none⟩ = some (.int .i64 5) := ⟨c0, x0, x1, x2⟩
  go_region_held3 (fun w' => w'.cell? ⟨(w.heap.size + 1 + 1 + 1 + 1 + 1 + 1), 0, none⟩ = some (.pointer (some ⟨(w.heap.size + 1 + 1 + 1), 0, none⟩)) ∧ w'.cell? ⟨q, 0, none⟩ = some (.int .i64 1) ∧ w'.cell? ⟨q, 1, none⟩ = some (.int .i64 0) ∧ w'.cell? ⟨q, 2, none⟩ = some (.int .i64 5)) (first | with_reducible exact s0d | with_reducible exact s1) ((go_at_call 17; refine HCV.out.mono ?_; rintro e W9 ⟨rfl, K9, s1⟩))
  all_goals
    clear HCV s0d s1 c0 x0 x1 x2
    have HQ9 := hide (boxed_old HQ8.out K9.out)
    have HLD9 := hide (HLD8.out.later K9.out)
    have HS9 := hide (StaS.later HS8.out K9.out)
    have HB9 := hide (HB8.out.trans (K9.out.mono HB8.out.size))
    clear HQ8 HLD8 HS8 HB8 K9
    have HCC := hide (stateCells O8 _ _ _ _ 2 aB W9 HS9.out (by omega) (fun k => (aB_len k).1) (fun k => (aB_len k).2))
    go_wp2_with fail
    refine HCC.out.mono ?_
    rintro e WA ⟨vc, xs, ks, rfl, k1, _, k3, k4, k5⟩
    obtain rfl := kofB k1
    obtain ⟨x, rfl⟩ : ∃ x, xs = [x] := by
      have := congrArg List.length k3
      rw [List.length_map, List.length_map] at this
      exact List.length_eq_one_iff.1 this
    have hxc : x.c = aB.at kB := by simpa using k3
    obtain ⟨gc, cc, rfl, hcc⟩ : ∃ g cp, vc = .slice (some ⟨g, 0, none⟩) 1 cp ∧ 1 ≤ cp := by
      rcases k4.slice with ⟨_, e⟩ | ⟨g, cp, e, h, _⟩
      · cases e
      · exact ⟨g, cp, e, h⟩
    have hc3 := (k4.at (j := 0) rfl).2.2.2.1
    rw [hxc] at hc3
    have HA := hide (Hd7.mk (boxed_old HQ9.out k5) (HLD9.out.later k5) (StaS.later HS9.out k5) (HB9.out.trans (k5.mono HB9.out.size)) hc3)
    clear k1 k3 k4 k5 hxc hc3 HCC HQ9 HLD9 HS9 HB9
    have HA1 := hide (HA.out.later (Below.refl WA.heap.size WA).drew)
    have s0d := HA1.out.cells
    clear HA
    go_wp2
    simp only [List.append_eq, List.cons_append, List.nil_append]
    go_region_held3 (fun w' => w'.cell? ⟨q, 0, none⟩ = some (.int .i64 1) ∧ w'.cell? ⟨q, 1, none⟩ = some (.int .i64 0) ∧ w'.cell? ⟨q, 2, none⟩ = some (.int .i64 5) ∧ w'.cell? ⟨(w.heap.size + 1 + 1 + 1 + 1 + 1 + 1), 1, none⟩ = some (.pointer (some ⟨(w.heap.size + 1 + 1 + 1 + 1), 0, none⟩)) ∧ w'.cell? ⟨gc, 3, none⟩ = some (.bool true)) (first | with_reducible exact s0d | with_reducible exact s1 | with_reducible exact s2 | with_reducible exact s3 | with_reducible exact s4 | with_reducible exact s5 | with_reducible exact s6 | with_reducible exact s7 | with_reducible exact s8) (first | (go_at_call 21; with_reducible refine (Begun_true _).mono ?_; rintro e WB ⟨rfl, hb⟩; have HB := hide (HA1.out.later hb); have s1 := HB.out.cells; clear hb) | (go_at_call 22; with_reducible refine HB.out.list.mono ?_; rintro e WC ⟨p1, r1, rfl, hb⟩; have HC := hide (HB.out.later hb); have s2 := HC.out.cells; clear hb) | (go_at_call 9; with_reducible refine HC.out.dict.mono ?_; rintro e WD ⟨p2, r2, rfl, hb⟩; have HD := hide (HC.out.later hb); have s3 := HD.out.cells; clear hb) | (go_at_call 22; with_reducible refine HD.out.slist.mono ?_; rintro e WE ⟨p3, r3, rfl, hb⟩; have HE := hide (HD.out.later hb); have s4 := HE.out.cells; clear hb) | (go_at_call 24; with_reducible refine HE.out.copy.mono ?_; rintro e WF ⟨rfl, hb, HEQ⟩; have HF := hide (HE.out.later hb); have s5 := HF.out.cells; clear hb) | (go_at_call 23; with_reducible refine HEQ.out.mono ?_; rintro e WG ⟨rfl, hb⟩; have HG := hide (HF.out.later hb); have s6 := HG.out.cells; clear hb) | (go_at_call 14; with_reducible refine HG.out.new.mono ?_; rintro e WH ⟨rfl, hb, HEQ2⟩; have HH := hide (HG.out.later hb); have s7 := HH.out.cells; clear hb) | (go_at_call 23; with_reducible refine HEQ2.out.mono ?_; rintro e WJ ⟨rfl, hb⟩; have HJ := hide (HH.out.later hb); have s8 := HJ.out.cells; clear hb))
    all_goals
      go_wp2
      go_ret
      exact ⟨rfl, HJ.out.b⟩
end Go.Proofs.YtdogecaonlmalaaGreat
