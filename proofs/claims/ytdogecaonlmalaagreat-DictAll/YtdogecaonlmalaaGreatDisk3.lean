/- What disk's redo does, as begun uses it. -/
import Derived.Test.YtdogecaonlmalaaGreatDisk2
namespace Go.Proofs.YtdogecaonlmalaaGreat
open Go.RowKit

theorem run_upto (b o n cap j : Nat) (J : Int) (eJ : J = (j : Int)) (hj : j ≤ cap) (W : World) :
    (Instr.slice 112 (.slice (some ⟨b, o, none⟩) n cap) none (some (.int .i64 J)) none).run Tryz.prog W = .ok (.slice (some ⟨b, o, none⟩) j cap) W := by
  subst eJ
  have e2 : (Instr.sliceBound (.int .i64 (j : Int)) cap .sliceAcap).run Tryz.prog W = .ok j W := by
    have := run_sliceBound (P := Tryz.prog) W .i64 (j : Int) cap .sliceAcap (by omega) (by omega)
    simpa using this
  simp [Instr.slice, Instr.sliceBounds, run_underlying Tryz.underlying112, e2, Addr.add]

theorem run_rest (b o n cap : Nat) (hj : n ≤ cap) :
    ∃ x, ∀ W : World, (Instr.slice 112 (.slice (some ⟨b, o, none⟩) n cap) (some (.int .i64 (n : Int))) none none).run Tryz.prog W = .ok (.slice x 0 (cap - n)) W := by
  by_cases h : n = cap
  · subst h
    refine ⟨some ⟨b, o, none⟩, fun W => ?_⟩
    have e2 : (Instr.sliceBound (.int .i64 (n : Int)) n .sliceB).run Tryz.prog W = .ok n W := by
      have := run_sliceBound (P := Tryz.prog) W .i64 (n : Int) n .sliceB (by omega) (by omega)
      simpa using this
    simp [Instr.slice, Instr.sliceBounds, run_underlying Tryz.underlying112, e2]
  · refine ⟨some ⟨b, o + n, none⟩, fun W => ?_⟩
    have := run_from b o n cap n 0 (n : Int) rfl (by omega) (by omega) (by omega) W
    exact this

set_option maxRecDepth 100000 in
set_option maxHeartbeats 1600000 in
theorem redo_full (mb gs cs b o n lc : Nat) (s : ByteArray) (l : List Int) (w : World) (hm : w.heap[mb]? = some (.map #[] 0)) (hN : Noted w gs s n) (h : Bs w (some ⟨b, o, none⟩) n lc l) (_hn0 : 0 < n) (hn : n ≤ 1000) :
    Calls Tryz.prog 102 #[.map (some mb), .slice (some ⟨gs, 0, none⟩) 1 cs, .slice (some ⟨b, o, none⟩) n lc] w fun e w' => ∃ v, e = .returned (.tuple #[]) ∧ w'.heap[mb]? = some (fmap s v) ∧ w'.ownsInts w.heap.size 5 .u8 v l ∧ w.grownBy w' (some mb) := by
  obtain ⟨n0, n1, n2⟩ := hN
  have hlt := lt_of_heap hm
  have hlc := h.2.1
  have su := fun W => run_upto b o n lc n (n : Int) rfl hlc W
  obtain ⟨rx, sr⟩ := run_rest b o n lc hlc
  have HA : Hid (∀ W, Below w.heap.size w W → Calls Tryz.prog 100 #[.map (some mb), .string s, .slice (some ⟨b, o, none⟩) n lc] W fun e w' => ∃ v, e = .returned (.tuple #[]) ∧ Hid (w'.heap[mb]? = some (fmap s v)) ∧ Hid (w'.ownsInts w.heap.size 5 .u8 v l) ∧ w.grownBy w' (some mb) ∧ W.heap.size ≤ w'.heap.size ∧ Hid (∀ k, k < W.heap.size → k ≠ mb → w'.heap[k]? = W.heap[k]?)) := by
    intro W hW
    refine (filesAdd_first mb s _ n lc l W ((hW.block mb hlt).trans hm) (h.later hW (Nat.le_refl _)) hn).mono ?_
    rintro e w' ⟨v, rfl, k1, k2, k3⟩
    exact ⟨v, rfl, k1, owns_mono k2 hW.size, grown_trans (below_grown hW _) k3, k3.size, fun k hk hne => k3.block k hk (by simpa using hne)⟩
  have HW2 : Hid (∀ o, Below w.heap.size w (w.alloc o).drew) := fun o => ((Below.refl _ _).alloc (Nat.le_refl _) _).drew
  clear hm h
  go_enter Tryz.func102, Tryz.ntmps102
  go_wp2
  refine wp_loop_rounds 2 ?_
  rw [rounds_succ]
  go_wp2
  go_region_with (go_at_call 100; (refine (HA.out _ (HW2.out _)).mono ?_; rintro e W1 ⟨v, rfl, H1, H2, hgr, hsz, H3⟩; have q2 : W1.cell? ⟨w.heap.size, 2, none⟩ = some (.int .i64 n) := (cells3 (T := 187) ((H3.out w.heap.size (by simp) (by omega)).trans (heap_alloc_new w (.cells #[.int .i64 0, .string s, .int .i64 n] 187)))).2.2))
  all_goals
    go_wp2
    rw [rounds_succ]
    go_wp2
    go_end0
    exact ⟨v, rfl, H1.out, H2.out, hgr⟩

set_option maxRecDepth 100000 in
set_option maxHeartbeats 800000 in
theorem tear_any (B mb : Nat) (s : ByteArray) (v : Value) (l0 : List Int) (a : Option Addr) (n cap : Nat) (l : List Int) (w : World) (hm : w.heap[mb]? = some (fmap s v)) (ho : w.ownsInts B 5 .u8 v l0) (hB : B ≤ w.heap.size) (h : Bs w a n cap l) (h0 : 0 < n) (hn : n ≤ 1000) (hl : l0.length ≤ 1000) :
    Calls Tryz.prog 129 #[.map (some mb), .string s, .slice a n cap] w fun e w' => ∃ v', e = .returned (.tuple #[]) ∧ w'.heap[mb]? = some (fmap s v') ∧ w'.ownsInts B 5 .u8 v' (l0 ++ l) ∧ Tch (fun k => k = mb ∨ some k = v.ownBlock) w w' := by
  have HA := hide (filesAdd_more B mb s v l0 a n cap l w hm ho hB h hn hl)
  clear hm ho h
  go_enter Tryz.func129, Tryz.ntmps129
  go_wp2_with fail
  refine HA.out.mono ?_
  rintro e w1 ⟨v', rfl, k1, k2, k3⟩
  have H1 := hide k1
  have H2 := hide k2
  have H3 := hide k3
  clear k1 k2 k3 HA
  go_wp2
  go_end0
  exact ⟨v', rfl, H1.out, H2.out, H3.out⟩

set_option maxRecDepth 100000 in
set_option maxHeartbeats 1600000 in
theorem redo_tear (B mb gs cs b o n k lc : Nat) (s : ByteArray) (v : Value) (l0 l : List Int) (w : World) (hm : w.heap[mb]? = some (fmap s v)) (ho : w.ownsInts B 5 .u8 v l0) (hB : B ≤ w.heap.size) (hN : Noted w gs s n) (h : Bs w (some ⟨b, o, none⟩) k lc l) (hk0 : 0 < k) (hkn : k < n) (hn : n ≤ 1000) (hl : l0.length ≤ 1000) :
    Calls Tryz.prog 102 #[.map (some mb), .slice (some ⟨gs, 0, none⟩) 1 cs, .slice (some ⟨b, o, none⟩) k lc] w fun e w' => ∃ v', e = .returned (.tuple #[]) ∧ w'.heap[mb]? = some (fmap s v') ∧ w'.ownsInts B 5 .u8 v' (l0 ++ l) ∧ Tch (fun k => k = mb ∨ some k = v.ownBlock) w w' := by
  obtain ⟨n0, n1, n2⟩ := hN
  have hlt := lt_of_heap hm
  have HA : Hid (∀ o', Calls Tryz.prog 129 #[.map (some mb), .string s, .slice (some ⟨b, o, none⟩) k lc] (w.alloc o') fun e w' => ∃ v', e = .returned (.tuple #[]) ∧ w'.heap[mb]? = some (fmap s v') ∧ w'.ownsInts B 5 .u8 v' (l0 ++ l) ∧ Tch (fun k => k = mb ∨ some k = v.ownBlock) w w') := by
    intro o'
    have hW := below_alloc w o' w.heap.size (Nat.le_refl _)
    refine (tear_any B mb s v l0 _ k lc l (w.alloc o') ((hW.block mb hlt).trans hm) (owns_later ho hW) (Nat.le_trans hB hW.size) (h.later hW (Nat.le_refl _)) hk0 (by omega) hl).mono ?_
    rintro e w' ⟨v', rfl, k1, k2, k3⟩
    exact ⟨v', rfl, k1, k2, (Below.tch hW).trans k3⟩
  clear hm ho h
  go_enter Tryz.func102, Tryz.ntmps102
  go_wp2
  refine wp_loop_rounds 2 ?_
  rw [rounds_succ]
  go_wp2_with fail
  refine (HA.out _).mono ?_
  rintro e w1 ⟨v', rfl, k1, k2, k3⟩
  have H1 := hide k1
  have H2 := hide k2
  have H3 := hide k3
  clear k1 k2 k3 HA
  go_wp2
  exact bodyPost_ret (v := .tuple #[]) (by simp [results, Tryz.results102, go_sem]) rfl ⟨v', rfl, H1.out, H2.out, H3.out⟩

theorem range_one (s : ByteArray) (v : Value) (mb : Nat) (w : World) (hm : w.heap[mb]? = some (fmap s v)) : (Instr.range 152 (.map (some mb))).run Tryz.prog w = .ok (.pointer (some ⟨w.heap.size, 0, none⟩)) (w.alloc (.mapIter (some mb) 1 #[] 1)) := by
  have h3 := Go.MapKept.run_getObj_map (P := Tryz.prog) hm
  simp [Instr.range, run_underlying und101, h3]

theorem run_getObj_it {w : World} {r a c : Nat} {m : Option Nat} {b : Array Nat} (h : w.heap[r]? = some (.mapIter m a b c)) : (getObj r).run Tryz.prog w = .ok (.mapIter m a b c) w := by simp [getObj, Sem.run, h]
theorem run_setObj_it {w : World} {r a c : Nat} {m : Option Nat} {b : Array Nat} (h : w.heap[r]? = some (.mapIter m a b c)) (o' : Obj) : (setObj r o').run Tryz.prog w = .ok () { w with heap := w.heap.setIfInBounds r o' } := by simp [setObj, Sem.run, h]

theorem next_one (s : ByteArray) (v : Value) (mb r : Nat) (w : World) (hm : w.heap[mb]? = some (fmap s v)) (hr : w.heap[r]? = some (.mapIter (some mb) 1 #[] 1)) :
    ∃ w', (∀ ty, (Instr.next (.pointer (some ⟨r, 0, none⟩)) false ty).run Tryz.prog w = .ok (.tuple #[.bool true, .string s, v]) w') ∧ w'.heap[r]? = some (.mapIter (some mb) 1 #[0] 1) ∧ w.grownBy w' (some r) := by
  have h3 := Go.MapKept.run_getObj_map (P := Tryz.prog) hm
  have h4 := run_getObj_it hr
  have h5 := run_setObj_it hr (.mapIter (some mb) 1 #[0] 1)
  refine ⟨_, fun ty => by simp [Instr.next, h3, h4, h5, Question.forced]; rfl, ?_, grown_setBlock w r _⟩
  have hlt := (Array.getElem?_eq_some_iff.1 hr).1
  simp [hlt]

theorem next_over (s : ByteArray) (v : Value) (mb r : Nat) (ty : TypeId) (w : World) (hm : w.heap[mb]? = some (fmap s v)) (hr : w.heap[r]? = some (.mapIter (some mb) 1 #[0] 1)) :
    (Instr.next (.pointer (some ⟨r, 0, none⟩)) false ty).run Tryz.prog w = .ok (.tuple #[.bool false]) w := by
  have h3 := Go.MapKept.run_getObj_map (P := Tryz.prog) hm
  have h4 := run_getObj_it hr
  simp [Instr.next, h3, h4, Question.forced]

theorem entry_one (s : ByteArray) (v : Value) (mb r : Nat) (w : World) (hm : w.heap[mb]? = some (fmap s v)) (hr : w.heap[r]? = some (.mapIter (some mb) 1 #[0] 1)) :
    (Instr.entry (.pointer (some ⟨r, 0, none⟩))).run Tryz.prog w = .ok (.tuple #[.string s, v]) w := by
  have h3 := Go.MapKept.run_getObj_map (P := Tryz.prog) hm
  have h4 := run_getObj_it hr
  simp [Instr.entry, h3, h4]

theorem mk_reserve (T : TypeId) (hT : Tryz.prog.underlying T = some (.map 9 112)) (n : Int) (w : World) : (Instr.makeMap T (some (.int .i64 n))).run Tryz.prog w = .ok (.map (some w.heap.size)) (w.alloc (.map #[] 0)) := by
  simp [Instr.makeMap, run_underlying hT, asInt, asIntOf]

theorem len_one (s : ByteArray) (v : Value) (mb : Nat) (ty : TypeId) (w : World) (hm : w.heap[mb]? = some (fmap s v)) : (Builtin.len_ #[152] ty #[.map (some mb)]).run Tryz.prog w = .ok (.int .i64 1) w := by
  have h3 := Go.MapKept.run_getObj_map (P := Tryz.prog) hm
  simp [Builtin.len_, run_underlying und101, h3]
  rfl

set_option maxRecDepth 100000 in
set_option maxHeartbeats 1600000 in
theorem filesCopy_one (mb : Nat) (s : ByteArray) (a : Option Addr) (n cap : Nat) (l : List Int) (w : World) (hm : w.heap[mb]? = some (fmap s (.slice a n cap))) (h : Bs w a n cap l) (hn : n ≤ 1000) :
    Calls Tryz.prog 103 #[.map (some mb)] w fun e w' => ∃ m' v', e = .returned (.map (some m')) ∧ w.heap.size ≤ m' ∧ w'.heap[m']? = some (fmap s v') ∧ w'.ownsInts w.heap.size 5 .u8 v' l ∧ Below w.heap.size w w' := by
  have hlt := lt_of_heap hm
  have mk := mk_reserve 152 und101
  have ln := fun ty => len_one s _ mb ty w hm
  have hm1 : (w.alloc (.map #[] 0)).heap[mb]? = some (fmap s (.slice a n cap)) := by rw [Below.heap_alloc _ _ _ hlt]; exact hm
  have rg := range_one s _ mb _ hm1
  have hm2 : ((w.alloc (.map #[] 0)).alloc (.mapIter (some mb) 1 #[] 1)).heap[mb]? = some (fmap s (.slice a n cap)) := by rw [Below.heap_alloc _ _ _ (by simp; omega)]; exact hm1
  have hr2 : ((w.alloc (.map #[] 0)).alloc (.mapIter (some mb) 1 #[] 1)).heap[w.heap.size + 1]? = some (.mapIter (some mb) 1 #[] 1) := by
    have := heap_alloc_new (w.alloc (.map #[] 0)) (.mapIter (some mb) 1 #[] 1)
    simpa using this
  have hn2 : ((w.alloc (.map #[] 0)).alloc (.mapIter (some mb) 1 #[] 1)).heap[w.heap.size]? = some (.map #[] 0) := by rw [Below.heap_alloc _ _ _ (by simp)]; exact heap_alloc_new w _
  have hb2 : Below w.heap.size w ((w.alloc (.map #[] 0)).alloc (.mapIter (some mb) 1 #[] 1)) := (below_alloc w _ _ (Nat.le_refl _)).trans (below_alloc _ _ _ (by simp))
  have HB := hide h
  go_enter Tryz.func103, Tryz.ntmps103
  go_wp2
  generalize (w.alloc (.map #[] 0)).alloc (.mapIter (some mb) 1 #[] 1) = W0 at *
  obtain ⟨w1, nx, hr1, hgr1⟩ := next_one s (.slice a n cap) mb (w.heap.size + 1) W0 hm2 hr2
  have hm3 := (Tch.of hgr1).old hm2 (by simp; omega)
  have hn3 := (Tch.of hgr1).old hn2 (by simp)
  have en := entry_one s (.slice a n cap) mb (w.heap.size + 1) w1 hm3 hr1
  have hb3 : Below w.heap.size w w1 := hb2.trans (grown_below hgr1 (by omega) (by have := lt_of_heap hn2; omega))
  have hbs3 := h.later hb3 (Nat.le_refl _)
  have HC := hide (copyOfD a n cap l w1 hbs3 (by omega))
  refine wp_loop_rounds 2 ?_
  rw [rounds_succ]
  go_wp2_with fail
  refine HC.out.mono ?_
  rintro e w2 ⟨rfl, hown2, hb4⟩
  have hm4 := (hb4.block _ (lt_of_heap hm3)).trans hm3
  have hn4 := (hb4.block _ (lt_of_heap hn3)).trans hn3
  have hr4 := (hb4.block _ (lt_of_heap hr1)).trans hr1
  obtain ⟨w3, up, hn5, hgr5⟩ := put_first und101 s (.slice (some ⟨w1.heap.size, 0, none⟩) n n) w2 hn4
  have hm5 := (Tch.of hgr5).old hm4 (by simp; omega)
  have hr5 := (Tch.of hgr5).old hr4 (by simp)
  have nx2 := fun ty => next_over s (.slice a n cap) mb (w.heap.size + 1) ty w3 hm5 hr5
  have HO : Hid (w3.ownsInts w.heap.size 5 .u8 (.slice (some ⟨w1.heap.size, 0, none⟩) n n) l) :=
    owns_mono ((Tch.of hgr5).owns hown2 (fun k hk e => by simp [Value.ownBlock] at hk e; have := lt_of_heap hn3; omega)) hb3.size
  have HB5 : Hid (Below w.heap.size w w3) := (hb3.trans (hb4.mono hb3.size)).trans (grown_below hgr5 (Nat.le_refl _) (Nat.le_trans hb3.size hb4.size))
  have HN5 := hide hn5
  clear nx en rg mk ln hn5 hgr5 hown2 hb4 hm4 hn4 hr4 hm5 hr5 hm3 hn3 hr1 hgr1 HC hbs3 hb3 hm1 hm2 hr2 hn2 hb2 hm h HB
  go_wp2
  rw [rounds_succ]
  go_wp2
  go_ret
  exact ⟨w.heap.size, _, rfl, Nat.le_refl _, HN5.out, HO.out, HB5.out⟩
end Go.Proofs.YtdogecaonlmalaaGreat
