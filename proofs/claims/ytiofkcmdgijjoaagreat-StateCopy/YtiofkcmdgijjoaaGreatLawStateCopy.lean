/- The statement StateCopy: a copy goes its own way; cells that are told are the caller's own. -/
import Derived.Test.YtiofkcmdgijjoaaGreatCopW
import Derived.Test.YtiofkcmdgijjoaaGreatBeg7
import Derived.Test.YtiofkcmdgijjoaaGreatLawA
import Derived.Deep.LoopGhost
import Derived.Deep.CutRange
import Derived.Lib.MinMax
namespace Go.Proofs.YtiofkcmdgijjoaaGreat.stateCopy
open Go.ChangeShapes Go.WideShapes Go.ChangeAt Go.RowKit Go.MapKept Go.ChangeMaps

/-- What the law holds behind the copies. -/
structure Hd (u W : World) (s v1 l1 d1 r : Nat) (a : Ab) (N t v2 l2 d2 y : Nat) (b : Ab) (M : Nat) : Prop where
  f : ∃ w0, Below u.heap.size u w0 ∧ Fo w0 W s v1 l1 d1 r a N t v2 l2 d2 y b M
section
variable {u W W' : World} {s v1 l1 d1 r N t v2 l2 d2 y M : Nat} {a b : Ab}
theorem Hd.later (h : Hd u W s v1 l1 d1 r a N t v2 l2 d2 y b M) (hb : Below W.heap.size W W') : Hd u W' s v1 l1 d1 r a N t v2 l2 d2 y b M := by
  obtain ⟨w0, h1, h2⟩ := h.f
  exact ⟨w0, h1, h2.later hb⟩
theorem Hd.bel (h : Hd u W s v1 l1 d1 r a N t v2 l2 d2 y b M) : Below u.heap.size u W := by
  obtain ⟨w0, h1, h2⟩ := h.f
  exact h1.trans (h2.bel.mono h1.size)
theorem Hd.cells1 (h : Hd u W s v1 l1 d1 r a N t v2 l2 d2 y b M) (hN : N ≤ 1000) :
    Calls Tryz.prog 26 #[.pointer (some ⟨s, 0, none⟩)] W fun e w' => ∃ v, e = .returned v ∧ CellsAt w' v a ∧ (∃ n, Told W.heap.size w' v n ∧ n ≤ 3000) ∧ Below W.heap.size W w' := by
  obtain ⟨w0, _, hF⟩ := h.f
  obtain ⟨O1, O2, O3, O4, h1, h2, h3, h4, _⟩ := hF.own
  refine (h1.told hN).mono ?_
  rintro e w' ⟨v, xs, ks, r1, r2, r3, r4, r5, r6⟩
  have hl : xs.length = ks.length := by have := congrArg List.length r4; rwa [List.length_map, List.length_map] at this
  exact ⟨v, r1, ⟨ks, r2, by rw [← r4]; exact r5.rdC, by omega⟩, ⟨xs.length, r5.told, by omega⟩, r6⟩
theorem Hd.cells3 (h : Hd u W s v1 l1 d1 r a N t v2 l2 d2 y b M) (hM : M ≤ 1000) :
    Calls Tryz.prog 26 #[.pointer (some ⟨t, 0, none⟩)] W fun e w' => ∃ v, e = .returned v ∧ CellsAt w' v b ∧ Below W.heap.size W w' := by
  obtain ⟨w0, _, hF⟩ := h.f
  obtain ⟨O1, O2, O3, O4, h1, h2, h3, h4, _⟩ := hF.own
  refine (h3.told hM).mono ?_
  rintro e w' ⟨v, xs, ks, r1, r2, r3, r4, r5, r6⟩
  exact ⟨v, r1, ⟨ks, r2, by rw [← r4]; exact r5.rdC, by omega⟩, r6⟩
theorem Hd.cells2 (h : Hd u W s v1 l1 d1 r a N t v2 l2 d2 y b M) :
    Calls Tryz.prog 27 #[.pointer (some ⟨r, 0, none⟩)] W fun e w' => ∃ v, e = .returned v ∧ CellsRf w' v a ∧ Below W.heap.size W w' := by
  obtain ⟨w0, _, hF⟩ := h.f
  obtain ⟨O1, O2, O3, O4, h1, h2, h3, h4, _⟩ := hF.own
  refine (refCells h2).mono ?_
  rintro e w' ⟨v, r1, xs, ks, r2, r4, r5, r6⟩
  exact ⟨v, r1, ⟨ks, r2, by rw [← r4]; exact r5.own.rdC⟩, r6⟩
theorem Hd.cells4 (h : Hd u W s v1 l1 d1 r a N t v2 l2 d2 y b M) :
    Calls Tryz.prog 27 #[.pointer (some ⟨y, 0, none⟩)] W fun e w' => ∃ v, e = .returned v ∧ CellsRf w' v b ∧ Below W.heap.size W w' := by
  obtain ⟨w0, _, hF⟩ := h.f
  obtain ⟨O1, O2, O3, O4, h1, h2, h3, h4, _⟩ := hF.own
  refine (refCells h4).mono ?_
  rintro e w' ⟨v, r1, xs, ks, r2, r4, r5, r6⟩
  exact ⟨v, r1, ⟨ks, r2, by rw [← r4]; exact r5.own.rdC⟩, r6⟩
theorem Hd.lens (h : Hd u W s v1 l1 d1 r a N t v2 l2 d2 y b M) : (∀ k, (a.L k).length ≤ 100 ∧ (a.D k).length ≤ 100) ∧ ∀ k, (b.L k).length ≤ 100 ∧ (b.D k).length ≤ 100 := by
  obtain ⟨w0, _, hF⟩ := h.f
  obtain ⟨O1, O2, O3, O4, h1, h2, h3, h4, _⟩ := hF.own
  exact ⟨fun k => ⟨h1.ll k, h1.dl k⟩, fun k => ⟨h3.ll k, h3.dl k⟩⟩
theorem Hd.eq (h : Hd u W s v1 l1 d1 r a N t v2 l2 d2 y b M) (hN : N ≤ 1000) (hM : M ≤ 1000) :
    Calls Tryz.prog 32 #[.pointer (some ⟨s, 0, none⟩), .pointer (some ⟨t, 0, none⟩)] W fun e w' => ∃ x, e = .returned (.bool x) ∧ (x = true ↔ a = b) ∧ Below W.heap.size W w' := by
  obtain ⟨w0, _, hF⟩ := h.f
  obtain ⟨O1, O2, O3, O4, h1, h2, h3, h4, _⟩ := hF.own
  exact h1.eq h3 hN hM
end
/-- Rows of cells of one and the same. -/
theorem same_eq {W : World} {a : Ab} {v1 v2 : Value} (h1 : CellsAt W v1 a) (h2 : CellsRf W v2 a) (hl : ∀ k, (a.L k).length ≤ 100 ∧ (a.D k).length ≤ 100) :
    Calls Tryz.prog 25 #[v1, v2] W fun e w' => e = .returned (.bool true) ∧ Below W.heap.size W w' := by
  obtain ⟨ks, k1, k2, k5⟩ := h1
  obtain ⟨ks', k3, k4⟩ := h2
  rw [k1.one k3] at k4
  refine refEqC k2 k4 (by rw [List.length_map]; omega) (fun x hx => ?_)
  obtain ⟨k, _, rfl⟩ := List.mem_map.1 hx
  exact ⟨by have := (hl k).1; show (a.L k).length ≤ 1000; omega, by have := (hl k).2; show (a.D k).length ≤ 1000; omega⟩
/-- Rows of cells of two. -/
theorem both_eq {W : World} {a b : Ab} {v1 v2 : Value} (h1 : CellsRf W v1 a) (h2 : CellsRf W v2 b) (hk : ∃ ks, Kof a ks ∧ ks.length ≤ 3000) (hl : ∀ k, (a.L k).length ≤ 100 ∧ (a.D k).length ≤ 100) :
    Calls Tryz.prog 25 #[v1, v2] W fun e w' => ∃ x, e = .returned (.bool x) ∧ (x = true ↔ a = b) ∧ Below W.heap.size W w' := by
  obtain ⟨ks, k1, k2⟩ := h1
  obtain ⟨js, j1, j2⟩ := h2
  obtain ⟨ks', k3, k4⟩ := hk
  obtain rfl := k1.one k3
  refine (refEqC2 k2 j2 (by rw [List.length_map]; omega) (fun x hx => ?_)).mono ?_
  · obtain ⟨k, _, rfl⟩ := List.mem_map.1 hx
    exact ⟨by have := (hl k).1; show (a.L k).length ≤ 1000; omega, by have := (hl k).2; show (a.D k).length ≤ 1000; omega⟩
  · rintro e w' ⟨x, r1, r2, r3⟩
    exact ⟨x, r1, r2.trans (cells_eq k1 j1), r3⟩
/-- Copied, both. -/
theorem copied {u W : World} {s v1 l1 d1 r N : Nat} {a : Ab} (h : Tw (fun _ => False) u W s v1 l1 d1 r a a N) (hN : N ≤ 1000) :
    Calls Tryz.prog 30 #[.pointer (some ⟨s, 0, none⟩)] W fun e w1 => e = .returned (.pointer (some ⟨W.heap.size + 1 + 1 + 1, 0, none⟩)) ∧
      Hid (Calls Tryz.prog 31 #[.pointer (some ⟨r, 0, none⟩)] w1 fun e w2 => e = .returned (.pointer (some ⟨w1.heap.size, 0, none⟩)) ∧ Hid (Hd u w2 s v1 l1 d1 r a N (W.heap.size + 1 + 1 + 1) W.heap.size (W.heap.size + 1) (W.heap.size + 1 + 1) w1.heap.size a N)) := by
  obtain ⟨O1, O2, h1, h2, h3, h4, h5, h6⟩ := h.own
  refine (h1.copy hN).mono ?_
  rintro e w1 ⟨r1, r2, r3⟩
  refine ⟨r1, ?_⟩
  have h2' := h2.later r3
  refine Calls.mono (refCopy h2') ?_
  rintro e w2 ⟨q1, q2, q3⟩
  exact ⟨q1, ⟨u, Below.refl _ _, Fo.new h r3 r2 q3 h2' (fun k hk => (h5 k hk).1) q2⟩⟩
theorem Hd.told {u W : World} {s v1 l1 d1 r N t v2 l2 d2 y M : Nat} {a b : Ab} (h : Hd u W s v1 l1 d1 r a N t v2 l2 d2 y b M) (pa : Option Addr) (n cc : Nat) (xs : List Mq) (hm0 : Ms u pa n (xs.map Mq.m)) (hn : n ≤ 100000) :
    Calls Tryz.prog 18 #[.pointer (some ⟨t, 0, none⟩), .slice pa n cc] W fun e w1 => (∃ x, e = .returned (.int .i64 x)) ∧
      Hid (Calls Tryz.prog 19 #[.pointer (some ⟨y, 0, none⟩), .slice pa n cc] w1 fun e w2 => (∃ x, e = .returned (.int .i64 x)) ∧ Hid (Hd u w2 s v1 l1 d1 r a N t v2 l2 d2 y (dQ b xs) (M + n))) := by
  obtain ⟨w0, h1, hF⟩ := h.f
  refine (hF.do1 h1 pa n cc xs hm0 hn).mono ?_
  rintro e w1 ⟨r1, O1, O2, O3, O4, g1, g2, g3, g4, g5, g6, g7, g8, g9⟩
  refine ⟨r1, ?_⟩
  refine Calls.mono (Fo.do2 g1 g2 g3 g4 g5 g6 g7 g8 hF.y g9 h1 pa n cc xs hm0 hn rfl) ?_
  rintro e w2 ⟨q1, q2⟩
  exact ⟨q1, ⟨w0, h1, q2⟩⟩
/-- Told cells, and what lies below them. -/
structure Lp (wB W : World) (v : Value) (n : Nat) : Prop where
  t : Told wB.heap.size W v n
  b : Below wB.heap.size wB W
theorem Lp.later {wB W W' : World} {v : Value} {n : Nat} (h : Lp wB W v n) (hb : Below W.heap.size W W') : Lp wB W' v n := ⟨h.t.later hb, h.b.trans (hb.mono h.b.size)⟩
theorem Lp.set {wB W : World} {v : Value} {n g j : Nat} {T : TypeId} {cur : Array Value} (h : Lp wB W v n) (hg : W.heap[g]? = some (.cells cur T (0, 0))) (hT : T ≠ 73) (hB : wB.heap.size ≤ g) (x : Int) : Lp wB (W.setCell ⟨g, j, none⟩ (.int .i64 x)) v n :=
  ⟨h.t.set hg hT x, h.b.grown (grown_setCell W g j (.int .i64 x)) h.b.size (fun k hk => by cases hk; exact hB)⟩
/-- A box stays. -/
theorem box_set {W : World} {g j bx : Nat} {T : TypeId} {cur : Array Value} {cs : Array Value} (hg : W.heap[g]? = some (.cells cur T (0, 0))) (hT : T ≠ 73) (hx : W.heap[bx]? = some (.cells cs 73 (0, 0))) (v : Value) : (W.setCell ⟨g, j, none⟩ v).heap[bx]? = some (.cells cs 73 (0, 0)) := by
  have hne : bx ≠ g := fun e => by
    rw [e, hg] at hx
    obtain ⟨_, e5⟩ : cur = cs ∧ T = 73 := by simpa using hx
    exact hT e5
  rw [Below.heap_setCell _ _ _ _ (fun e => hne e)]
  exact hx

set_option maxRecDepth 100000 in
set_option maxHeartbeats 8000000 in
theorem walk (a0 : Option Addr) (n0 c0 : Nat) (z0 : List Mq) (a1 : Option Addr) (n1 c1 : Nat) (z1 : List Mq) (w : World) (h0 : Ms w a0 n0 (z0.map Mq.m)) (_f0 : ∀ x ∈ z0, wfQ x) (_l0 : n0 ≤ c0) (_m0 : c0 ≤ 9223372036854775807) (h1 : Ms w a1 n1 (z1.map Mq.m)) (_f1 : ∀ x ∈ z1, wfQ x) (_l1 : n1 ≤ c1) (_m1 : c1 ≤ 9223372036854775807) :
    Calls Tryz.prog 6 #[.slice a0 n0 c0, .slice a1 n1 c1] w fun e w' => e = .returned (.bool true) ∧ Below w.heap.size w w' := by
  obtain ⟨m0, hm0⟩ : ∃ m, min n0 20 = m := ⟨_, rfl⟩
  have hmI0 : min (n0 : Int) 20 = (m0 : Int) := by omega
  have su0 := fun W => run_uptoM a0 n0 c0 m0 (by omega) W
  obtain ⟨m1, hm1⟩ : ∃ m, min n1 20 = m := ⟨_, rfl⟩
  have hmI1 : min (n1 : Int) 20 = (m1 : Int) := by omega
  have su1 := fun W => run_uptoM a1 n1 c1 m1 (by omega) W
  have hp0 : Ms w a0 m0 ((z0.take m0).map Mq.m) := by rw [List.map_take]; exact h0.take m0 (by omega)
  have hp1 : Ms w a1 m1 ((z1.take m1).map Mq.m) := by rw [List.map_take]; exact h1.take m1 (by omega)
  have HP0 := hide hp0
  have HP1 := hide hp1
  clear h0 _f0 h1 _f1 _m0 _m1 hp0 hp1
  generalize z0.take m0 = xs at *
  generalize z1.take m1 = ys at *
  go_enter Tryz.func6, Tryz.ntmps6
  go_wp2_with fail
  refine (begun7_true _).mono ?_
  rintro e w0 ⟨rfl, hb0⟩
  have HB0 := hide hb0
  clear hb0
  have h200 : m0 ≤ 20 := by omega
  have h201 : m1 ≤ 20 := by omega
  go_upto_region 4 with fail
  go_cut [0, 1] from 19 to 28 (fun t0 t1 wx => t0 = .slice a0 m0 c0 ∧ t1 = .slice a1 m1 c1 ∧ Hid (Below w.heap.size w wx))
  case first =>
    go_region
    all_goals
      have HBF := hide HB0.out.drew
      clear HB0
      go_wp2
      go_meet
      case rel => exact ⟨rfl, rfl, HBF.out⟩
  case rest =>
    obtain ⟨rfl, rfl, HB⟩ := hcut
    clear su0 su1 hm0 hm1 hmI0 hmI1
    go_wp2_with fail
    refine (stateNew wc).mono ?_
    rintro e w9 ⟨rfl, rfl⟩
    go_wp2_with fail
    refine (refNew _).mono ?_
    rintro e w8 ⟨rfl, rfl⟩
    have HT := hide (Tw.new HB.out)
    clear HB
    generalize (newSt wc).alloc (.cells stZ 97) = W1 at *
    generalize (newSt wc).heap.size = r at *
    generalize wc.heap.size + 1 + 1 + 1 = s at *
    generalize wc.heap.size + 1 + 1 = d1 at *
    generalize wc.heap.size + 1 = l1 at *
    generalize wc.heap.size = v1 at *
    go_wp2_with fail
    refine (HT.out.do1 a0 m0 c0 xs HP0.out (by omega)).mono ?_
    rintro e w3 ⟨rfl, hT3, _⟩
    have HT3 := hide hT3
    clear hT3 HT
    go_wp2_with fail
    refine (HT3.out.do2 a0 m0 c0 xs HP0.out (by omega)).mono ?_
    rintro e w4 ⟨rfl, hT4, _⟩
    have HT4 := hide hT4
    clear hT4 HT3 HP0
    generalize dErr ab0 xs = er at *
    generalize dQ ab0 xs = a at *
    have HC := hide (copied HT4.out (by omega))
    go_wp2_with fail
    refine HC.out.mono ?_
    rintro e w5 ⟨rfl, HC2⟩
    clear HC HT4
    go_wp2_with fail
    refine HC2.out.mono ?_
    rintro e w6 ⟨rfl, HH⟩
    clear HC2
    generalize w4.heap.size + 1 + 1 + 1 = t at *
    generalize w4.heap.size + 1 + 1 = d2 at *
    generalize w4.heap.size + 1 = l2 at *
    generalize w4.heap.size = v2 at *
    generalize w5.heap.size = y at *
    have HE := hide (HH.out.eq (by omega) (by omega))
    go_wp2_with fail
    refine HE.out.mono ?_
    rintro e w7 ⟨x7, rfl, hx7, hb7⟩
    obtain rfl : x7 = true := hx7.2 (by trivial)
    have HH7 := hide (HH.out.later hb7)
    clear hx7 hb7 HE HH
    have HD := hide (HH7.out.told a1 m1 c1 ys HP1.out (by omega))
    go_wp2_with fail
    refine HD.out.mono ?_
    rintro e w8' ⟨⟨x8, rfl⟩, HD2⟩
    clear HD HH7 HP1
    go_wp2_with fail
    refine HD2.out.mono ?_
    rintro e wB ⟨⟨x9, rfl⟩, HHB⟩
    clear HD2
    generalize dQ a ys = b at *
    have HC1 := hide (HHB.out.cells1 (by omega))
    go_wp2_with fail
    refine HC1.out.mono ?_
    rintro e w10 ⟨v10, rfl, hat, ⟨n, hT, hn⟩, hb10⟩
    have HK : Hid (∃ ks, Kof a ks ∧ ks.length ≤ 3000) := by obtain ⟨ks, k1, _, k2⟩ := hat; exact ⟨ks, k1, k2⟩
    have HL : Hid (Lp wB w10 v10 n) := ⟨hT, hb10⟩
    obtain ⟨pv, cv, rfl, hnc, _⟩ := hT
    clear hat hb10 HC1
    go_wp2
    go_loopg [58] n (fun gm ix wr => ∃ i : Nat, gm = n - i ∧ i ≤ n ∧ ix = .int .i64 i ∧ Hid (Lp wB wr (.slice pv n cv) n))
    case atStart => exact ⟨0, rfl, by omega, rfl, HL⟩
    case round =>
      clear HL
      obtain ⟨i, rfl, hi, rfl, HL⟩ := hrel
      by_cases hin : i < n
      · obtain ⟨p', c', e', _, h2⟩ := HL.out.t
        obtain ⟨rfl, rfl⟩ : pv = p' ∧ cv = c' := by simpa using e'
        obtain ⟨g, cur, rfl, _, h3⟩ := h2 (by omega)
        obtain ⟨κ, hb, hv, lp, ln, lc, dp, dn, dc, hC⟩ := h3 i hin
        obtain ⟨q0, q1, q2, q3, q4, q5, q6, ql, qd, qle1, qle2, qle3, qle4⟩ := hC
        have hl9 : ln ≤ 9223372036854775807 := by omega
        have hd9 : dn ≤ 9223372036854775807 := by omega
        simp only [Nat.zero_add] at q0 q1 q2 q3 q4 q5 q6
        have hbb := below_alloc wr (.cells #[.int .i64 κ.g, .int .i64 κ.n, .int .i64 κ.i, .bool hb, .int .i64 hv, .slice lp ln lc, .slice dp dn dc] 73) wr.heap.size (Nat.le_refl _)
        have HBX := hide (heap_alloc_new wr (.cells #[.int .i64 κ.g, .int .i64 κ.n, .int .i64 κ.i, .bool hb, .int .i64 hv, .slice lp ln lc, .slice dp dn dc] 73))
        have HL1 : Hid (Lp wB (wr.alloc (.cells #[.int .i64 κ.g, .int .i64 κ.n, .int .i64 κ.i, .bool hb, .int .i64 hv, .slice lp ln lc, .slice dp dn dc] 73)) (.slice (some ⟨g, 0, none⟩) n cv) n ∧ NumI wB.heap.size 2 (wr.alloc (.cells #[.int .i64 κ.g, .int .i64 κ.n, .int .i64 κ.i, .bool hb, .int .i64 hv, .slice lp ln lc, .slice dp dn dc] 73)) lp ln ∧ NumI wB.heap.size 43 (wr.alloc (.cells #[.int .i64 κ.g, .int .i64 κ.n, .int .i64 κ.i, .bool hb, .int .i64 hv, .slice lp ln lc, .slice dp dn dc] 73)) dp (dn * 2)) := ⟨HL.out.later hbb, ql.later hbb, qd.later hbb⟩
        clear h2 h3 ql qd hbb e' HL
        have hiz : (i : Int) < (n : Int) := by omega
        go_wp2
        clear q0 q1 q2 q3 q4 q5 q6
        generalize wr.alloc (.cells #[.int .i64 κ.g, .int .i64 κ.n, .int .i64 κ.i, .bool hb, .int .i64 hv, .slice lp ln lc, .slice dp dn dc] 73) = WA at *
        generalize wr.heap.size = bx at *
        go_loopg [65] ln (fun gm ix wr => ∃ j : Nat, gm = ln - j ∧ j ≤ ln ∧ ix = .int .i64 j ∧ Hid (wr.heap[bx]? = some (.cells #[.int .i64 κ.g, .int .i64 κ.n, .int .i64 κ.i, .bool hb, .int .i64 hv, .slice lp ln lc, .slice dp dn dc] 73)) ∧ Hid (Lp wB wr (.slice (some ⟨g, 0, none⟩) n cv) n ∧ NumI wB.heap.size 2 wr lp ln ∧ NumI wB.heap.size 43 wr dp (dn * 2)))
        case atStart => exact ⟨0, rfl, by omega, rfl, HBX, HL1⟩
        case round =>
          clear HBX HL1
          obtain ⟨j, rfl, hj, rfl, HBX, HL1⟩ := hrel
          obtain ⟨x0, x1, x2, x3, x4, x5, x6⟩ := cells_seven HBX.out
          by_cases hjn : j < ln
          · obtain ⟨gl, cl, rfl, hgB, hgh, hgc⟩ := HL1.out.2.1 (by omega)
            obtain ⟨xv, hxv⟩ := hgc j hjn
            have xc : wr.cell? ⟨gl, j, none⟩ = some (.int .i64 xv) := by simp [World.cell?, hgh, hxv]
            have xf : wr.frozen? ⟨gl, j, none⟩ = false := by simp [World.frozen?, hgh]
            have HN : Hid (∀ z : Int, (wr.setCell ⟨gl, j, none⟩ (.int .i64 z)).heap[bx]? = some (.cells #[.int .i64 κ.g, .int .i64 κ.n, .int .i64 κ.i, .bool hb, .int .i64 hv, .slice (some ⟨gl, 0, none⟩) ln lc, .slice dp dn dc] 73) ∧ Lp wB (wr.setCell ⟨gl, j, none⟩ (.int .i64 z)) (.slice (some ⟨g, 0, none⟩) n cv) n ∧ NumI wB.heap.size 2 (wr.setCell ⟨gl, j, none⟩ (.int .i64 z)) (some ⟨gl, 0, none⟩) ln ∧ NumI wB.heap.size 43 (wr.setCell ⟨gl, j, none⟩ (.int .i64 z)) dp (dn * 2)) := fun z =>
              ⟨box_set hgh typesTl.1 HBX.out _, HL1.out.1.set hgh typesTl.1 hgB z, HL1.out.2.1.set hgh z, HL1.out.2.2.set hgh z⟩
            have hjz : (j : Int) < (ln : Int) := by omega
            have hj0 : (0 : Int) ≤ (j : Int) := by omega
            clear hgh hgc hxv HBX HL1
            go_wp2
            go_roundg (ln - (j + 1))
            case measure => omega
            case rel => exact ⟨j + 1, rfl, by omega, by simp, (HN.out _).1, (HN.out _).2⟩
          · have hjz : ¬ (j : Int) < (ln : Int) := by omega
            go_wp2
            clear x0 x1 x2 x3 x4 x5 x6
            go_loopg [79] dn (fun gm ix wr => ∃ j : Nat, gm = dn - j ∧ j ≤ dn ∧ ix = .int .i64 j ∧ Hid (wr.heap[bx]? = some (.cells #[.int .i64 κ.g, .int .i64 κ.n, .int .i64 κ.i, .bool hb, .int .i64 hv, .slice lp ln lc, .slice dp dn dc] 73)) ∧ Hid (Lp wB wr (.slice (some ⟨g, 0, none⟩) n cv) n ∧ NumI wB.heap.size 43 wr dp (dn * 2)))
            case atStart => exact ⟨0, rfl, by omega, rfl, HBX, HL1.out.1, HL1.out.2.2⟩
            case round =>
              clear HBX HL1
              obtain ⟨m, rfl, hm, rfl, HBX, HL1⟩ := hrel
              obtain ⟨x0, x1, x2, x3, x4, x5, x6⟩ := cells_seven HBX.out
              by_cases hmn : m < dn
              · obtain ⟨gl, cl, rfl, hgB, hgh, hgc⟩ := HL1.out.2 (by omega)
                obtain ⟨xv, hxv⟩ := hgc (m * 2 + 1) (by omega)
                have xc : wr.cell? ⟨gl, m * 2 + 1, none⟩ = some (.int .i64 xv) := by simp [World.cell?, hgh, hxv]
                have xf : wr.frozen? ⟨gl, m * 2 + 1, none⟩ = false := by simp [World.frozen?, hgh]
                have HN : Hid (∀ z : Int, (wr.setCell ⟨gl, m * 2 + 1, none⟩ (.int .i64 z)).heap[bx]? = some (.cells #[.int .i64 κ.g, .int .i64 κ.n, .int .i64 κ.i, .bool hb, .int .i64 hv, .slice lp ln lc, .slice (some ⟨gl, 0, none⟩) dn dc] 73) ∧ Lp wB (wr.setCell ⟨gl, m * 2 + 1, none⟩ (.int .i64 z)) (.slice (some ⟨g, 0, none⟩) n cv) n ∧ NumI wB.heap.size 43 (wr.setCell ⟨gl, m * 2 + 1, none⟩ (.int .i64 z)) (some ⟨gl, 0, none⟩) (dn * 2)) := fun z =>
                  ⟨box_set hgh typesTl.2 HBX.out _, HL1.out.1.set hgh typesTl.2 hgB z, HL1.out.2.set hgh z⟩
                have hjz : (m : Int) < (dn : Int) := by omega
                have hj0 : (0 : Int) ≤ (m : Int) := by omega
                clear hgh hgc hxv HBX HL1
                go_wp2
                go_roundg (dn - (m + 1))
                case measure => omega
                case rel => exact ⟨m + 1, rfl, by omega, by simp, (HN.out _).1, (HN.out _).2⟩
              · have hjz : ¬ (m : Int) < (dn : Int) := by omega
                have HF := hide HL1.out.1
                clear HL1 HBX x0 x1 x2 x3 x4 x5 x6
                go_wp2
                go_roundg (n - (i + 1))
                case measure => omega
                case rel => exact ⟨i + 1, rfl, by omega, by simp, HF⟩
      · have hiz : ¬ (i : Int) < (n : Int) := by omega
        have HH1 := hide (HHB.out.later HL.out.b)
        clear HL HHB
        have HC2 := hide (HH1.out.cells2)
        go_wp2_with fail
        refine HC2.out.mono ?_
        rintro e w11 ⟨v11, rfl, hr11, hb11⟩
        have HR2 := hide hr11
        have HH2 := hide (HH1.out.later hb11)
        clear hr11 hb11 HC2 HH1
        have HC4 := hide (HH2.out.cells4)
        go_wp2_with fail
        refine HC4.out.mono ?_
        rintro e w12 ⟨v12, rfl, hr12, hb12⟩
        have HR3 := hide (And.intro (HR2.out.later hb12) hr12)
        have HH3 := hide (HH2.out.later hb12)
        clear hr12 hb12 HC4 HH2 HR2
        have HC1 := hide (HH3.out.cells1 (by omega))
        go_wp2_with fail
        refine HC1.out.mono ?_
        rintro e w13 ⟨v13, rfl, ha13, _, hb13⟩
        have HR4 := hide (And.intro (HR3.out.1.later hb13) (HR3.out.2.later hb13))
        have HH4 := hide (HH3.out.later hb13)
        have HS := hide (same_eq ha13 HR4.out.1 HH4.out.lens.1)
        clear ha13 hb13 HC1 HH3 HR3
        go_wp2_with fail
        refine HS.out.mono ?_
        rintro e w14 ⟨rfl, hb14⟩
        have HR5 := hide (And.intro (HR4.out.1.later hb14) (HR4.out.2.later hb14))
        have HH5 := hide (HH4.out.later hb14)
        clear hb14 HS HH4 HR4
        have HC3 := hide (HH5.out.cells3 (by omega))
        go_wp2_with fail
        refine HC3.out.mono ?_
        rintro e w15 ⟨v15, rfl, ha15, hb15⟩
        have HR6 := hide (And.intro (HR5.out.1.later hb15) (HR5.out.2.later hb15))
        have HH6 := hide (HH5.out.later hb15)
        have HS := hide (same_eq ha15 HR6.out.2 HH6.out.lens.2)
        clear ha15 hb15 HC3 HH5 HR5
        go_wp2_with fail
        refine HS.out.mono ?_
        rintro e w16 ⟨rfl, hb16⟩
        have HR7 := hide (And.intro (HR6.out.1.later hb16) (HR6.out.2.later hb16))
        have HH7 := hide (HH6.out.later hb16)
        clear hb16 HS HH6 HR6
        have HEQ := hide (HH7.out.eq (by omega) (by omega))
        go_wp2_with fail
        refine HEQ.out.mono ?_
        rintro e w17 ⟨x17, rfl, hx17, hb17⟩
        have HX17 := hide hx17
        have HS := hide (both_eq (HR7.out.1.later hb17) (HR7.out.2.later hb17) HK.out HH7.out.lens.1)
        have HBF := hide (HH7.out.later hb17).bel
        clear hx17 hb17 HEQ HH7 HR7
        go_wp2_with fail
        refine HS.out.mono ?_
        rintro e w18 ⟨x18, rfl, hx18, hb18⟩
        obtain rfl : x17 = x18 := by
          have h1 := HX17.out
          cases x17 <;> cases x18 <;> first | rfl | exact absurd (h1.1 rfl) (fun e => by have := hx18.2 e; cases this) | exact absurd (hx18.1 rfl) (fun e => by have := h1.2 e; cases this)
        have HBE := hide (HBF.out.trans (hb18.mono HBF.out.size))
        clear hx18 hb18 HS HBF HX17
        cases x17 <;> go_wp2
        all_goals
          go_ret
          exact ⟨rfl, HBE.out⟩

theorem own : ownKnob Tryz.prog.godebug = none := by kernel_rfl
theorem laidOut : laidOutB Tryz.prog = true := by kernel_rfl

set_option maxRecDepth 100000 in
theorem lifted (os : Os) (started : os.Started) (H : Type) (enc : TypeId × Value → H) :
    ReturnsInHanded {} Tryz.checked os 6 .any (Rows.stateCopySpec.pre6 enc Tryz.prog Tryz.f6 Rows.stateCopyRow.domain false) (Rows.stateCopySpec.post enc Tryz.prog Tryz.f6 false true false false) := by
  refine returnsInHanded_of_change (C := Tryz.checked) own started (by kernel_rfl) Tryz.func6
    (ChangeSpec.witness6 (enc := enc) (C := Tryz.checked) false ⟨#[], #[.slice none 0 0, .slice none 0 0], []⟩ 8 (by kernel_rfl) (by kernel_rfl) (by kernel_rfl) (by kernel_rfl)) ?_
  intro W base args ds gs before hval0 hW hcnd _
  have hval : ∀ (j : Nat) t v, Tryz.f6.params[j]? = some t → args[j]? = some v → Value.okWide Tryz.prog W .any base t v := hval0
  have hW' := hW
  obtain ⟨p, q, hA0, hV, rfl, hfz, hnd⟩ := hW
  have hA : DataW.TrodAll enc Tryz.prog W 0 (fun _ => true) true Tryz.f6.params.toList args.toList ds p := hA0
  rw [Tryz.params6] at hA hval
  obtain ⟨v0, vs0, d0, ds0, p0, q0, hargs, rfl, rfl, h0, r0⟩ := trodAll_cons hA
  obtain ⟨v1, vs1, d1, ds1, p1, q1, rfl, rfl, rfl, h1, r1⟩ := trodAll_cons r0
  obtain ⟨rfl, rfl, rfl⟩ := trodAll_nil r1
  obtain rfl : args = #[v0, v1] := by cases args; simp_all
  obtain ⟨rfl, rfl⟩ := trodVars_none hV
  obtain ⟨a0, n0, c0, rfl⟩ := okWide_slice Tryz.underlying46 (hval 0 46 v0 rfl rfl)
  have k0 := h0
  have lt0 : ∀ x ∈ p0, x.block < W.heap.size := by obtain ⟨m, hm⟩ := k0; exact DataW.trod_lt m _ _ _ hm
  obtain ⟨z0, w0⟩ : ∃ xs : List Mq, Ms W a0 n0 (xs.map Mq.m) ∧ (∀ x ∈ xs, wfQ x) ∧ n0 ≤ c0 ∧ c0 ≤ 9223372036854775807 := by
    obtain ⟨fuel, hf⟩ := h0
    rcases open_mqs hf with hcs | ⟨x, l, c, ms, hcs, hl, hm, hM, hw⟩
    · simp [Value.cells] at hcs; obtain ⟨rfl, rfl, rfl⟩ := hcs; exact ⟨[], ⟨rfl, fun h => absurd h (Nat.lt_irrefl 0)⟩, by simp, Nat.le_refl _, by omega⟩
    · simp [Value.cells] at hcs; obtain ⟨rfl, rfl, rfl⟩ := hcs; exact ⟨ms, hM, hw, hl, by simpa [maxLen] using hm⟩
  obtain ⟨a1, n1, c1, rfl⟩ := okWide_slice Tryz.underlying46 (hval 1 46 v1 rfl rfl)
  have k1 := h1
  have lt1 : ∀ x ∈ p1, x.block < W.heap.size := by obtain ⟨m, hm⟩ := k1; exact DataW.trod_lt m _ _ _ hm
  obtain ⟨z1, w1⟩ : ∃ xs : List Mq, Ms W a1 n1 (xs.map Mq.m) ∧ (∀ x ∈ xs, wfQ x) ∧ n1 ≤ c1 ∧ c1 ≤ 9223372036854775807 := by
    obtain ⟨fuel, hf⟩ := h1
    rcases open_mqs hf with hcs | ⟨x, l, c, ms, hcs, hl, hm, hM, hw⟩
    · simp [Value.cells] at hcs; obtain ⟨rfl, rfl, rfl⟩ := hcs; exact ⟨[], ⟨rfl, fun h => absurd h (Nat.lt_irrefl 0)⟩, by simp, Nat.le_refl _, by omega⟩
    · simp [Value.cells] at hcs; obtain ⟨rfl, rfl, rfl⟩ := hcs; exact ⟨ms, hM, hw, hl, by simpa [maxLen] using hm⟩
  clear hA0 hval0
  refine (walk a0 n0 c0 z0 a1 n1 c1 z1 W w0.1 w0.2.1 w0.2.2.1 w0.2.2.2 w1.1 w1.2.1 w1.2.2.1 w1.2.2.2).mono fun e W' ⟨he, bel⟩ => ?_
  subst he
  exact ⟨_, rfl, _, _, _, [], _, [], hW', trodAll_mk1 (shut_bool Tryz.underlying4 _), (trodAll_cons_mk (Below.trod laidOut (by kernel_rfl) (of_decide_eq_true (by kernel_rfl)) k0 bel lt0) (trodAll_cons_mk (Below.trod laidOut (by kernel_rfl) (of_decide_eq_true (by kernel_rfl)) k1 bel lt1) trodAll_mk0)), rfl, bel.frame _, fun h => by cases h⟩

theorem over : Rows.stateCopyRow.holds Tryz.pinned (OpenSpec.ofChange Rows.stateCopySpec) :=
  OpenClaim.holds_of_wide 6 Tryz.f6 rfl rfl rfl rfl rfl rfl rfl ⟨rfl, rfl, rfl, rfl, rfl⟩ rfl rfl rfl rfl rfl (by kernel_rfl) Tryz.func6 (by kernel_rfl)
    (of_decide_eq_true (by kernel_rfl)) (by unfold Func.isWrapper; first | (rw [if_pos (by decide +kernel)]; kernel_rfl) | (rw [if_neg (by decide +kernel)]; exact ⟨rfl, rfl⟩))
    (fun os started H enc _ => lifted os started H enc)

theorem proved : Rows.StateCopySaid := over
#print axioms proved
end Go.Proofs.YtiofkcmdgijjoaaGreat.stateCopy
