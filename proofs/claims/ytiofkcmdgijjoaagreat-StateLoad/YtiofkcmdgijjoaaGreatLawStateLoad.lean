/- The statement StateLoad: a state of cells, if they may be; else nothing changes. -/
import Derived.Test.YtiofkcmdgijjoaaGreatLdL
import Derived.Test.YtiofkcmdgijjoaaGreatLdR
import Derived.Test.YtiofkcmdgijjoaaGreatRefU
import Derived.Test.YtiofkcmdgijjoaaGreatBeg7
import Derived.Test.YtiofkcmdgijjoaaGreatLawA
import Derived.Deep.CutRange
import Derived.Lib.MinMax
namespace Go.Proofs.YtiofkcmdgijjoaaGreat.stateLoad
open Go.ChangeShapes Go.WideShapes Go.ChangeAt Go.RowKit Go.MapKept Go.ChangeMaps

theorem run_uptoC (a : Option Addr) (n cap j : Nat) (hj : j ≤ cap) (W : World) :
    (Instr.slice 65 (.slice a n cap) none (some (.int .i64 (j : Int))) none).run Tryz.prog W = .ok (.slice a j cap) W := by
  have e1 : (Instr.sliceBound (.int .i64 (j : Int)) cap .sliceAcap).run Tryz.prog W = .ok j W := by
    have := run_sliceBound (P := Tryz.prog) W .i64 (j : Int) cap .sliceAcap (by omega) (by omega)
    simpa using this
  simp [Instr.slice, Instr.sliceBounds, run_underlying Tryz.underlying65, e1]
  try (cases a <;> simp [Addr.add])
/-- Load, and what lies then. -/
theorem loaded {F : Nat → Prop} {u W : World} {s gv gl gd r N : Nat} {a b : Ab} (h : Tw F u W s gv gl gd r a b N) (hN : N ≤ 1000) (v : Value) (cs : List Cw) (hX : RdW u v cs) (hlen : cs.length ≤ 1000) (hy : CsT cs cs.length) :
    Calls Tryz.prog 28 #[.pointer (some ⟨s, 0, none⟩), v] W fun e w' => e = .returned (.int .i64 0) ∧ Hid (Below u.heap.size u w' ∧ ∀ W2, Below w'.heap.size w' W2 → Calls Tryz.prog 26 #[.pointer (some ⟨s, 0, none⟩)] W2 fun e w2 => ∃ v2, e = .returned v2 ∧ Hid (Calls Tryz.prog 25 #[v2, v] w2 fun e w3 => e = .returned (.bool true) ∧ Hid (Below u.heap.size u w3))) := by
  obtain ⟨O1, O2, h1, h2, h3, h4, h5, h6⟩ := h.own
  have hz := h.bel.size
  have hw : Sg W (fun k => O1 k ∨ W.heap.size ≤ k) s gv gl gd a N := h1.wide (fun k hk _ => Or.inl hk)
  obtain ⟨hld, hv0⟩ := csT_ld hy
  have hrc := hX.rdC hv0
  have hOl : ∀ k, (O1 k ∨ W.heap.size ≤ k) → u.heap.size ≤ k := fun k hk => by
    rcases hk with hk | hk
    · exact (h4 k hk).2
    · omega
  refine (loadYes v cs W hw (fun k hk => Or.inr hk) hN (hX.later h.bel) (hrc.rdK h.bel hOl) (by omega) hy).mono ?_
  rintro e w' ⟨r1, ⟨M, r2⟩, r3⟩
  have hb' : Below u.heap.size u w' := h.bel.trans (r3.below (fun k hk e => by have := hOl k e; omega) hz)
  obtain ⟨k1, k2, k3, k4⟩ := hld.all
  have hkl : ((cs.map Cw.cl).map Cl.k).length ≤ 1000 := by rw [List.length_map, List.length_map]; omega
  refine ⟨r1, hb', fun W2 hW2 => ?_⟩
  have hb'' : Below u.heap.size u W2 := hb'.trans (hW2.mono hb'.size)
  have hs : AbS W2 _ s gv gl gd (ofC (cs.map Cw.cl)) ((cs.map Cw.cl).map Cl.k).length := StaS.later (StaS.fit r2 (fun k hk => (k1.2 k).2 hk)) hW2
  refine Calls.mono (stateCells _ s gv gl gd _ _ W2 hs hkl k4 (fun k => by have := OkF.le (k3 k); omega)) ?_
  rintro e w2 ⟨v2, xs, ks, q1, q2, q3, q4, q5, q6⟩
  refine ⟨v2, q1, ?_⟩
  have e1 : ks = (cs.map Cw.cl).map Cl.k := rise_eq q2.1 k1.1 (fun k => (q2.2 k).trans (k1.2 k).symm)
  have hR : RdC w2 v2 (cs.map Cw.cl) := by
    have := q5.rdC
    rw [q4, e1, k2] at this
    exact this
  have hb2 : Below u.heap.size u w2 := hb''.trans (q6.mono hb''.size)
  refine Calls.mono (refEqC hR (hrc.later hb2) (by rw [List.length_map]; omega) (fun x hx => ⟨by have := hld.l x hx; omega, by have := OkF.le (hld.d x hx); omega⟩)) ?_
  rintro e w3 ⟨t1, t2⟩
  exact ⟨t1, hb2.trans (t2.mono hb2.size)⟩
/-- Nothing was laid. -/
theorem unloaded {F : Nat → Prop} {u W : World} {s gv gl gd r N : Nat} {a b : Ab} (h : Tw F u W s gv gl gd r a b N) (v : Value) (cs : List Cw) (hX : RdW u v cs) (hlen : cs.length ≤ 1000) (hy : ¬ CsT cs cs.length) :
    Calls Tryz.prog 28 #[.pointer (some ⟨s, 0, none⟩), v] W fun e w' => e = .returned (.int .i64 1) ∧ Tw F u w' s gv gl gd r a b N := by
  refine (loadNo s v cs W (hX.later h.bel) (by omega) hy).mono ?_
  rintro e w' ⟨r1, r2⟩
  exact ⟨r1, h.later r2⟩

set_option maxRecDepth 100000 in
set_option maxHeartbeats 8000000 in
theorem walk (a0 : Option Addr) (n0 c0 : Nat) (z0 : List Cw) (a1 : Option Addr) (n1 c1 : Nat) (z1 : List Mq) (w : World) (h0 : RdW w (.slice a0 n0 c0) z0) (hl0 : z0.length = n0) (_l0 : n0 ≤ c0) (h1 : Ms w a1 n1 (z1.map Mq.m)) (_f1 : ∀ x ∈ z1, wfQ x) (_l1 : n1 ≤ c1) (_m1 : c1 ≤ 9223372036854775807) :
    Calls Tryz.prog 5 #[.slice a0 n0 c0, .slice a1 n1 c1] w fun e w' => e = .returned (.bool true) ∧ Below w.heap.size w w' := by
  obtain ⟨m0, hm0⟩ : ∃ m, min n0 12 = m := ⟨_, rfl⟩
  have hmI0 : min (n0 : Int) 12 = (m0 : Int) := by omega
  have su0 := fun W => run_uptoC a0 n0 c0 m0 (by omega) W
  obtain ⟨m1, hm1⟩ : ∃ m, min n1 12 = m := ⟨_, rfl⟩
  have hmI1 : min (n1 : Int) 12 = (m1 : Int) := by omega
  have su1 := fun W => run_uptoM a1 n1 c1 m1 (by omega) W
  have hp0 := h0.take m0 (by omega)
  have hp1 : Ms w a1 m1 ((z1.take m1).map Mq.m) := by rw [List.map_take]; exact h1.take m1 (by omega)
  have HP0 := hide hp0
  have HP1 := hide hp1
  have HLZ : Hid ((z0.take m0).length ≤ 12) := by show _ ≤ _; rw [List.length_take]; omega
  have h201 : m1 ≤ 12 := by omega
  clear h0 hl0 h1 _f1 _m1 hp0 hp1
  generalize z1.take m1 = ys at *
  generalize z0.take m0 = xs at *
  go_enter Tryz.func5, Tryz.ntmps5
  go_wp2_with fail
  refine (begun7_true _).mono ?_
  rintro e w0 ⟨rfl, hb0⟩
  have HB0 := hide hb0
  clear hb0
  go_upto_region 4 with fail
  go_cut [0, 1] from 12 to 21 (fun t0 t1 wx => t0 = .slice a0 m0 c0 ∧ t1 = .slice a1 m1 c1 ∧ Hid (Below w.heap.size w wx))
  case first =>
    go_region
    all_goals
      have HBF := hide HB0.out.drew
      clear HB0
      go_wp2
      go_meet
      case rel => exact ⟨rfl, rfl, HBF.out⟩
  case rest =>
    obtain ⟨rfl, rfl, HB⟩ := hcut
    clear su0 su1 hm0 hm1 hmI0 hmI1
    go_wp2_with fail
    refine (stateNew wc).mono ?_
    rintro e w9 ⟨rfl, rfl⟩
    go_wp2_with fail
    refine (refNew _).mono ?_
    rintro e w8 ⟨rfl, rfl⟩
    have HT := hide (Tw.new HB.out)
    clear HB
    generalize (newSt wc).alloc (.cells stZ 97) = W1 at *
    generalize (newSt wc).heap.size = r at *
    generalize wc.heap.size + 1 + 1 + 1 = s at *
    generalize wc.heap.size + 1 + 1 = d1 at *
    generalize wc.heap.size + 1 = l1 at *
    generalize wc.heap.size = v1 at *
    go_wp2_with fail
    refine (HT.out.do1 a1 m1 c1 ys HP1.out (by omega)).mono ?_
    rintro e w3 ⟨rfl, hT3, _⟩
    have HT3 := hide hT3
    clear hT3 HT
    go_wp2_with fail
    refine (HT3.out.do2 a1 m1 c1 ys HP1.out (by omega)).mono ?_
    rintro e w4 ⟨rfl, hT4, _⟩
    have HT4 := hide hT4
    clear hT4 HT3 HP1
    generalize dErr ab0 ys = er at *
    generalize dQ ab0 ys = a at *
    by_cases hy : CsT xs xs.length
    case pos =>
      have HL := hide (loaded HT4.out (by omega) _ xs HP0.out (by have := HLZ.out; omega) hy)
      have HM : Hid (∀ W, Below w.heap.size w W → Calls Tryz.prog 29 #[.slice a0 m0 c0] W fun e w' => e = .returned (.bool true) ∧ Below W.heap.size W w') := fun W hW => refMayCells _ xs W (HP0.out.later hW) (by have := HLZ.out; omega) true ⟨fun _ => hy, fun _ => rfl⟩
      clear hy HP0
      go_wp2_with fail
      refine HL.out.mono ?_
      rintro e w5 ⟨rfl, HL5⟩
      clear HL HT4
      have HM5 := hide (HM.out _ HL5.out.1)
      clear HM
      go_wp2_with fail
      refine HM5.out.mono ?_
      rintro e w6 ⟨rfl, hb6⟩
      have HC6 := hide (HL5.out.2 w6 hb6)
      clear hb6 HM5 HL5
      go_wp2_with fail
      refine HC6.out.mono ?_
      rintro e w7 ⟨v7, rfl, HE7⟩
      clear HC6
      go_wp2_with fail
      refine HE7.out.mono ?_
      rintro e w8' ⟨rfl, HB8⟩
      clear HE7
      go_wp2
      go_ret
      exact ⟨rfl, HB8.out⟩
    case neg =>
      have HL := hide (unloaded HT4.out _ xs HP0.out (by have := HLZ.out; omega) hy)
      have HM : Hid (∀ W, Below w.heap.size w W → Calls Tryz.prog 29 #[.slice a0 m0 c0] W fun e w' => e = .returned (.bool false) ∧ Below W.heap.size W w') := fun W hW => refMayCells _ xs W (HP0.out.later hW) (by have := HLZ.out; omega) false ⟨fun e => (by cases e), fun e => absurd e hy⟩
      clear hy HP0
      go_wp2_with fail
      refine HL.out.mono ?_
      rintro e w5 ⟨rfl, hT5⟩
      have HT5 := hide hT5
      clear hT5 HL HT4
      have HM5 := hide (HM.out _ HT5.out.bel)
      clear HM
      go_wp2_with fail
      refine HM5.out.mono ?_
      rintro e w6 ⟨rfl, hb6⟩
      have HT6 := hide (HT5.out.later hb6)
      clear hb6 HM5 HT5
      go_wp2_with fail
      refine (HT6.out.cells1 (by omega)).mono ?_
      rintro e w7 ⟨v7, rfl, hC7, hT7, _⟩
      have HX7 := hide hC7
      have HT7 := hide hT7
      clear hC7 hT7 HT6
      go_wp2_with fail
      refine (HT7.out.cells2).mono ?_
      rintro e w8' ⟨v8, rfl, hC8, hT8, hb8⟩
      have HX8 := hide (And.intro (HX7.out.later hb8) hC8)
      have HT8 := hide hT8
      clear hC8 hT8 hb8 HT7 HX7
      go_wp2_with fail
      refine (HT8.out.same HX8.out.1 HX8.out.2).mono ?_
      rintro e w9' ⟨rfl, hT9, _⟩
      have HBF := hide hT9.bel
      clear hT9 HT8 HX8
      go_wp2
      go_ret
      exact ⟨rfl, HBF.out⟩

theorem own : ownKnob Tryz.prog.godebug = none := by kernel_rfl
theorem laidOut : laidOutB Tryz.prog = true := by kernel_rfl

set_option maxRecDepth 100000 in
theorem lifted (os : Os) (started : os.Started) (H : Type) (enc : TypeId × Value → H) :
    ReturnsInHanded {} Tryz.checked os 5 .any (Rows.stateLoadSpec.pre6 enc Tryz.prog Tryz.f5 Rows.stateLoadRow.domain false) (Rows.stateLoadSpec.post enc Tryz.prog Tryz.f5 false true false false) := by
  refine returnsInHanded_of_change (C := Tryz.checked) own started (by kernel_rfl) Tryz.func5
    (ChangeSpec.witness6 (enc := enc) (C := Tryz.checked) false ⟨#[], #[.slice none 0 0, .slice none 0 0], []⟩ 8 (by kernel_rfl) (by kernel_rfl) (by kernel_rfl) (by kernel_rfl)) ?_
  intro W base args ds gs before hval0 hW hcnd _
  have hval : ∀ (j : Nat) t v, Tryz.f5.params[j]? = some t → args[j]? = some v → Value.okWide Tryz.prog W .any base t v := hval0
  have hW' := hW
  obtain ⟨p, q, hA0, hV, rfl, hfz, hnd⟩ := hW
  have hA : DataW.TrodAll enc Tryz.prog W 0 (fun _ => true) true Tryz.f5.params.toList args.toList ds p := hA0
  rw [Tryz.params5] at hA hval
  obtain ⟨v0, vs0, d0, ds0, p0, q0, hargs, rfl, rfl, h0, r0⟩ := trodAll_cons hA
  obtain ⟨v1, vs1, d1, ds1, p1, q1, rfl, rfl, rfl, h1, r1⟩ := trodAll_cons r0
  obtain ⟨rfl, rfl, rfl⟩ := trodAll_nil r1
  obtain rfl : args = #[v0, v1] := by cases args; simp_all
  obtain ⟨rfl, rfl⟩ := trodVars_none hV
  obtain ⟨a0, n0, c0, rfl⟩ := okWide_slice Tryz.underlying65 (hval 0 65 v0 rfl rfl)
  have k0 := h0
  have lt0 : ∀ x ∈ p0, x.block < W.heap.size := by obtain ⟨m, hm⟩ := k0; exact DataW.trod_lt m _ _ _ hm
  obtain ⟨z0, w0⟩ : ∃ ds : List Cw, RdW W (.slice a0 n0 c0) ds ∧ ds.length = n0 ∧ n0 ≤ c0 := by
    obtain ⟨fuel, hf⟩ := h0
    obtain ⟨a, l, c, ds, hcs, hl, hm, _, hM⟩ := open_cells hf
    simp [Value.cells] at hcs; obtain ⟨rfl, rfl, rfl⟩ := hcs; exact ⟨ds, hM, hl, hm⟩
  obtain ⟨a1, n1, c1, rfl⟩ := okWide_slice Tryz.underlying46 (hval 1 46 v1 rfl rfl)
  have k1 := h1
  have lt1 : ∀ x ∈ p1, x.block < W.heap.size := by obtain ⟨m, hm⟩ := k1; exact DataW.trod_lt m _ _ _ hm
  obtain ⟨z1, w1⟩ : ∃ xs : List Mq, Ms W a1 n1 (xs.map Mq.m) ∧ (∀ x ∈ xs, wfQ x) ∧ n1 ≤ c1 ∧ c1 ≤ 9223372036854775807 := by
    obtain ⟨fuel, hf⟩ := h1
    rcases open_mqs hf with hcs | ⟨x, l, c, ms, hcs, hl, hm, hM, hw⟩
    · simp [Value.cells] at hcs; obtain ⟨rfl, rfl, rfl⟩ := hcs; exact ⟨[], ⟨rfl, fun h => absurd h (Nat.lt_irrefl 0)⟩, by simp, Nat.le_refl _, by omega⟩
    · simp [Value.cells] at hcs; obtain ⟨rfl, rfl, rfl⟩ := hcs; exact ⟨ms, hM, hw, hl, by simpa [maxLen] using hm⟩
  clear hA0 hval0
  refine (walk a0 n0 c0 z0 a1 n1 c1 z1 W w0.1 w0.2.1 w0.2.2 w1.1 w1.2.1 w1.2.2.1 w1.2.2.2).mono fun e W' ⟨he, bel⟩ => ?_
  subst he
  exact ⟨_, rfl, _, _, _, [], _, [], hW', trodAll_mk1 (shut_bool Tryz.underlying4 _), (trodAll_cons_mk (Below.trod laidOut (by kernel_rfl) (of_decide_eq_true (by kernel_rfl)) k0 bel lt0) (trodAll_cons_mk (Below.trod laidOut (by kernel_rfl) (of_decide_eq_true (by kernel_rfl)) k1 bel lt1) trodAll_mk0)), rfl, bel.frame _, fun h => by cases h⟩

theorem over : Rows.stateLoadRow.holds Tryz.pinned (OpenSpec.ofChange Rows.stateLoadSpec) :=
  OpenClaim.holds_of_wide 5 Tryz.f5 rfl rfl rfl rfl rfl rfl rfl ⟨rfl, rfl, rfl, rfl, rfl⟩ rfl rfl rfl rfl rfl (by kernel_rfl) Tryz.func5 (by kernel_rfl)
    (of_decide_eq_true (by kernel_rfl)) (by unfold Func.isWrapper; first | (rw [if_pos (by decide +kernel)]; kernel_rfl) | (rw [if_neg (by decide +kernel)]; exact ⟨rfl, rfl⟩))
    (fun os started H enc _ => lifted os started H enc)

theorem proved : Rows.StateLoadSaid := over
#print axioms proved
end Go.Proofs.YtiofkcmdgijjoaaGreat.stateLoad
