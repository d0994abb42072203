/- What package store does with at most one object, with the object's bytes. -/
import Derived.Test.YtjdbkmjhjcmoaaaStore1
namespace Go.Proofs.Ytjdbkmjhjcmoaaa
open Go.RowKit

theorem add_copy2 {g mb : Nat} {w W : World} (s : ByteArray) (a : Option Addr) (n cap : Nat) (l : List Int) (hmg : mb ≠ g) (hmw : w.heap.size ≤ mb) (h : Pst g mb w W) (hbs : ∀ W, w.grownBy W (some g) → Bs W a n cap l) (hn : n ≤ 100000) :
    Calls Try.prog 40 #[.slice a n cap] W fun e W2 => ∃ gv W3, e = .returned (.slice (some ⟨gv, 0, none⟩) n n) ∧ W2.cell? ⟨g, 2, none⟩ = some (.map (some mb)) ∧
      (Instr.mapUpdate 71 (.map (some mb)) (.string s) (.slice (some ⟨gv, 0, none⟩) n n)).run Try.prog W2 = .ok () W3 ∧
      Hid (W3.heap[mb]? = some (.map #[⟨.string s, .slice (some ⟨gv, 0, none⟩) n n, 0⟩] 1)) ∧ Hid (W3.heap[g]? = some (stObj 0 0 (some mb))) ∧ w.grownBy W3 (some g) ∧ Hid (Bs W3 (some ⟨gv, 0, none⟩) n n l ∧ gv ≠ g ∧ w.heap.size ≤ gv) := by
  refine (copyOfS a n cap l W (hbs W h.2.2) (by omega)).mono ?_
  rintro e W2 ⟨rfl, ho, hb⟩
  have h2 := h.later hb
  have hg1 := lt_of_heap h.1
  have hm1 := lt_of_heap h.2.1
  obtain ⟨W3, hrun, h3, hgr⟩ := put_first und98 s (.slice (some ⟨W.heap.size, 0, none⟩) n n) W2 h2.2.1
  refine ⟨_, W3, rfl, (st_cells h2.1).2.2.1, hrun, h3, (hgr.block g (lt_of_heap h2.1) (by simp; exact Ne.symm hmg)).trans h2.1, ?_, ?_, ?_⟩
  · refine ⟨hgr.os.trans h2.2.2.os, hgr.tape.trans h2.2.2.tape, hgr.output.trans h2.2.2.output, Nat.le_trans h2.2.2.size hgr.size, fun k hk hne => ?_⟩
    rw [hgr.block k (Nat.lt_of_lt_of_le hk h2.2.2.size) (by simp; omega)]
    exact h2.2.2.block k hk hne
  · obtain ⟨a4, c4, e4, hbs4⟩ := Bs.of_owns ho
    have hl := (hbs W h.2.2).1
    rw [hl] at e4 hbs4
    obtain ⟨rfl, rfl⟩ : some ⟨W.heap.size, 0, none⟩ = a4 ∧ n = c4 := by simpa using e4
    obtain ⟨q1, q2, q3, q4, q5, q6⟩ := hbs4
    refine ⟨q1, q2, q3, q4, fun hp => ?_, q6⟩
    obtain ⟨b, o, e, hc⟩ := q5 hp
    obtain ⟨rfl, rfl⟩ : W.heap.size = b ∧ 0 = o := by simpa using e
    exact ⟨_, 0, rfl, fun i hi => hgr.cell (hc i hi) (by simp; omega)⟩
  · exact ⟨by omega, h.2.2.size⟩

set_option maxRecDepth 100000 in
set_option maxHeartbeats 800000 in
theorem storeAdd_first2 (g : Nat) (s : ByteArray) (a : Option Addr) (n cap : Nat) (l : List Int) (w : World) (hg : w.heap[g]? = some (stObj 0 0 none)) (h0 : ¬ s.size = 0) (hs : s.size ≤ 1000) (h : Bs w a n cap l) (hn : n ≤ 100000) :
    Calls Try.prog 39 #[.pointer (some ⟨g, 0, none⟩), .string s, .slice a n cap] w fun e w' => ∃ mb gv, e = .returned (.tuple #[]) ∧ w'.heap[g]? = some (stObj 0 n (some mb)) ∧ w'.heap[mb]? = some (.map #[⟨.string s, .slice (some ⟨gv, 0, none⟩) n n, 0⟩] 1) ∧ Bs w' (some ⟨gv, 0, none⟩) n n l ∧ w.grownBy w' (some g) ∧ w.heap.size ≤ gv := by
  have hmm := @run_makeMap Try.prog
  have hnm := fun (W : World) (r : Option Nat) => run_eql_map_nil (P := Try.prog) W 71 9 24 r und98
  obtain ⟨c0, c1, c2, f1, f2⟩ := st_cells hg
  have hlt := lt_of_heap hg
  have hsz0 : (w.setCell ⟨g, 2, none⟩ (.map (some w.heap.size))).heap.size = w.heap.size := by simp [World.setCell]
  have F1 : Hid (((w.setCell ⟨g, 2, none⟩ (.map (some w.heap.size))).alloc (.map #[] 0)).heap[g]? = some (stObj 0 0 (some w.heap.size))) := by
    show _ = _
    rw [Below.heap_alloc _ _ _ (by rw [hsz0]; exact hlt)]
    exact (st_set hg _ 0).1
  have F2 : Hid (((w.setCell ⟨g, 2, none⟩ (.map (some w.heap.size))).alloc (.map #[] 0)).heap[w.heap.size]? = some (.map #[] 0)) := by
    have := heap_alloc_new (w.setCell ⟨g, 2, none⟩ (.map (some w.heap.size))) (.map #[] 0)
    rwa [hsz0] at this
  have F3 : Hid (w.grownBy ((w.setCell ⟨g, 2, none⟩ (.map (some w.heap.size))).alloc (.map #[] 0)) (some g)) :=
    grown_trans (grown_setCell w g 2 _) (World.grownBy_alloc _ _ _)
  have hne : ∀ b o n' c' l', Bs w (some ⟨b, o, none⟩) n' c' l' → 0 < n' → b ≠ g := by
    rintro b o n' c' l' hb hp rfl
    obtain ⟨b', o', e, hc⟩ := hb.2.2.2.2.1 hp
    obtain ⟨rfl, rfl⟩ : b = b' ∧ o = o' := by simpa using e
    have := hc 0 hp
    simp [World.cell?, hg, stObj] at this
    rcases o with _ | _ | _ | o <;> simp at this
  have F4 : Hid (∀ W, w.grownBy W (some g) → Bs W a n cap l) := by
    intro W hW
    obtain ⟨h1, h2, h3, h4, h5, h6⟩ := h
    refine ⟨h1, h2, h3, h4, fun hp => ?_, h6⟩
    obtain ⟨b, o, rfl, hc⟩ := h5 hp
    have := hne b o n cap l ⟨h1, h2, h3, h4, h5, h6⟩ hp
    exact ⟨b, o, rfl, fun i hi => hW.cell (hc i hi) (by simpa using this)⟩
  clear hsz0 hne h hg
  go_enter Try.func39, Try.ntmps39
  go_wp2
  generalize (w.setCell ⟨g, 2, none⟩ (.map (some w.heap.size))).alloc (.map #[] 0) = W0 at *
  clear c0 c1 c2 f1 f2
  obtain ⟨c0, c1, c2, f1, f2⟩ := st_cells F1.out
  have hP : Pst g w.heap.size w W0.drew := ⟨F1.out, F2.out, grown_drew F3.out⟩
  have HP := hide hP
  have HM : Hid (w.heap.size ≠ g) := by show _ ≠ _; omega
  clear hP F1 F2 F3
  go_region_with (first | (go_at_call 64; (refine (add_clone s h0 hs HP.out).mono ?_; rintro e W1 ⟨rfl, HP1, d2⟩)) | (go_at_call 40; (refine (add_copy2 s a n cap l HM.out (Nat.le_refl _) HP1.out F4.out hn).mono ?_; rintro e W2 ⟨gv, W3, rfl, e2, hrun, H3m, H3g, hgr3, HBV⟩)))
  all_goals
    obtain ⟨k0, k1, k2, l1, l2⟩ := st_cells H3g.out
    go_wp2
  all_goals
    go_end0
    refine ⟨w.heap.size, gv, rfl, (st_set H3g.out Option.none (n : Int)).2, (Below.heap_setCell _ _ _ _ (by simp; exact HM.out)).trans H3m.out, ?_, grown_trans hgr3 (grown_setCell _ _ _ _), HBV.out.2.2⟩
    obtain ⟨⟨q1, q2, q3, q4, q5, q6⟩, hgv, _⟩ := HBV.out
    refine ⟨q1, q2, q3, q4, fun hp => ?_, q6⟩
    obtain ⟨b, o, e, hc⟩ := q5 hp
    obtain ⟨rfl, rfl⟩ : gv = b ∧ 0 = o := by simpa using e
    exact ⟨_, 0, rfl, fun i hi => (grown_setCell _ g _ _).cell (hc i hi) (by simpa using hgv)⟩

set_option maxRecDepth 100000 in
set_option maxHeartbeats 800000 in
theorem storePut_first2 (g : Nat) (s : ByteArray) (a : Option Addr) (n cap : Nat) (l : List Int) (w : World) (hg : w.heap[g]? = some (stObj 0 0 none)) (h0 : 1 ≤ s.size) (hs : s.size ≤ 40) (h : Bs w a n cap l) (hn : n ≤ 1000) :
    Calls Try.prog 14 #[.pointer (some ⟨g, 0, none⟩), .string s, .slice a n cap, .bool false] w fun e w' => ∃ mb gv, e = .returned (.int .i64 0) ∧ w'.heap[g]? = some (stObj 0 n (some mb)) ∧ w'.heap[mb]? = some (.map #[⟨.string s, .slice (some ⟨gv, 0, none⟩) n n, 0⟩] 1) ∧ Bs w' (some ⟨gv, 0, none⟩) n n l ∧ w.grownBy w' (some g) ∧ w.heap.size ≤ gv := by
  obtain ⟨c0, c1, c2, f1, f2⟩ := st_cells hg
  have lk := fun W => look_nothing und98 s true W
  simp only [if_true] at lk
  have d1 : decide ((s.size : Int) ≤ 40) = true := by simp; omega
  have d2 : decide (1 ≤ (s.size : Int)) = true := by simp; omega
  have HF := hide (fits_0 g n w hg)
  have HG := hide hg
  have HB := hide h
  clear hg h
  go_enter Try.func14, Try.ntmps14
  go_wp2_with (first | (go_at_call 36; go_in) | fail)
  refine HF.out.mono ?_
  rintro e w1 ⟨rfl, nq, rfl⟩
  have hD := below_drewN (Below.refl (w.heap.size + g + 1) w) nq
  have HA := hide (storeAdd_first2 g s a n cap l (w.drewN nq) ((hD.block g (by omega)).trans HG.out) (by omega) (by omega) (HB.out.later hD (by omega)) (by omega))
  clear hD
  go_wp2_with fail
  refine HA.out.mono ?_
  rintro e w2 ⟨mb, gv, rfl, h1, h2, h4, h3, h5⟩
  have H1 := hide h1
  have H2 := hide h2
  have H4 := hide h4
  have hD := below_drewN (Below.refl (w.heap.size + g + 1) w) nq
  have H3 := hide (grown_trans (below_grown (hD.mono (by omega)) (some g)) h3)
  clear h1 h2 h3 h4 hD
  go_wp2
  go_ret
  exact ⟨mb, gv, rfl, H1.out, H2.out, H4.out, H3.out, h5⟩

/-- A put that fails, where nothing is there yet. -/
theorem storePut_fail (g : Nat) (s : ByteArray) (a : Option Addr) (n cap : Nat) (w : World) (hg : w.heap[g]? = some (stObj 0 0 none)) (h0 : 1 ≤ s.size) (hs : s.size ≤ 40) (hn : n ≤ 1000) :
    Calls Try.prog 14 #[.pointer (some ⟨g, 0, none⟩), .string s, .slice a n cap, .bool true] w fun e w' => e = .returned (.int .i64 5) ∧ Below w.heap.size w w' := by
  obtain ⟨c0, c1, c2, f1, f2⟩ := st_cells hg
  have lk := fun W => look_nothing und98 s true W
  simp only [if_true] at lk
  have d1 : decide ((s.size : Int) ≤ 40) = true := by simp; omega
  have d2 : decide (1 ≤ (s.size : Int)) = true := by simp; omega
  have HF := hide (fits_0 g n w hg)
  clear hg
  go_enter Try.func14, Try.ntmps14
  go_wp2_with (first | (go_at_call 36; go_in) | fail)
  refine HF.out.mono ?_
  rintro e w1 ⟨rfl, nq, rfl⟩
  have HD := hide (below_drewN (Below.refl w.heap.size w) nq)
  go_wp2
  go_ret
  exact ⟨rfl, HD.out⟩

set_option maxRecDepth 100000 in
theorem storeHas_none (g b : Nat) (u : Int) (s : ByteArray) (w : World) (hg : w.heap[g]? = some (stObj 0 u none)) (hb : w.cell? ⟨b, 0, none⟩ = some (.string s)) :
    Calls Try.prog 29 #[.pointer (some ⟨g, 0, none⟩), .slice (some ⟨b, 0, none⟩) 1 1] w fun e w' => e = .returned (.bool false) ∧ Below w.heap.size w w' := by
  obtain ⟨c0, c1, c2, f1, f2⟩ := st_cells hg
  have lk := fun W => look_nothing und98 s true W
  simp only [if_true] at lk
  clear hg
  go_enter Try.func29, Try.ntmps29
  go_wp2
  refine wp_loop_rounds 1 ?_
  rw [rounds_succ]
  go_wp2
  go_ret
  refine ⟨rfl, ?_⟩
  repeat (first | exact Below.refl _ _ | refine Below.drew ?_ | refine Below.alloc ?_ (by first | (simp; done) | (simp; omega)) _)

set_option maxRecDepth 100000 in
theorem storeGet_none (g : Nat) (r u : Int) (s : ByteArray) (w : World) (hg : w.heap[g]? = some (stObj r u none)) :
    Calls Try.prog 15 #[.pointer (some ⟨g, 0, none⟩), .string s] w fun e w' => e = .returned (.tuple #[.slice none 0 0, .int .i64 3]) ∧ w' = w := by
  obtain ⟨c0, c1, c2, f1, f2⟩ := st_cells hg
  have lk := fun W => look_nothing und98 s true W
  simp only [if_true] at lk
  clear hg
  go_enter Try.func15, Try.ntmps15
  go_wp2
  go_ret2
  exact ⟨rfl, rfl⟩

set_option maxRecDepth 100000 in
theorem storeGet_one (g mb gv n : Nat) (r u : Int) (s : ByteArray) (l : List Int) (w : World) (hg : w.heap[g]? = some (stObj r u (some mb))) (hm : w.heap[mb]? = some (.map #[⟨.string s, .slice (some ⟨gv, 0, none⟩) n n, 0⟩] 1)) (hb : Bs w (some ⟨gv, 0, none⟩) n n l) (hn : n ≤ 100000) :
    Calls Try.prog 15 #[.pointer (some ⟨g, 0, none⟩), .string s] w fun e w' => ∃ g', e = .returned (.tuple #[.slice (some ⟨g', 0, none⟩) n n, .int .i64 0]) ∧ w'.ownsInts w.heap.size 5 .u8 (.slice (some ⟨g', 0, none⟩) n n) l ∧ Below w.heap.size w w' := by
  obtain ⟨c0, c1, c2, f1, f2⟩ := st_cells hg
  have lk := look_one und98 s true w hm
  simp only [if_true] at lk
  have HC := hide (copyOfS _ n n l w hb (by omega))
  clear hg hm hb
  go_enter Try.func15, Try.ntmps15
  go_wp2_with fail
  refine HC.out.mono ?_
  rintro e w1 ⟨rfl, ho, hb⟩
  go_wp2
  go_ret2
  exact ⟨_, rfl, ho, hb⟩
end Go.Proofs.Ytjdbkmjhjcmoaaa
