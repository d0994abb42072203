/- What package store does, as begun uses it. -/
import Derived.Test.YtdogecaonlmalaaGreatMap1
namespace Go.Proofs.YtdogecaonlmalaaGreat
open Go.RowKit

def stObj (room used : Int) (m : Option Nat) : Obj := .cells #[.int .i64 room, .int .i64 used, .map m] 151 (0, 0)

theorem st_cells {w : World} {g : Nat} {room used : Int} {m : Option Nat} (h : w.heap[g]? = some (stObj room used m)) :
    w.cell? ⟨g, 0, none⟩ = some (.int .i64 room) ∧ w.cell? ⟨g, 1, none⟩ = some (.int .i64 used) ∧ w.cell? ⟨g, 2, none⟩ = some (.map m) ∧ w.frozen? ⟨g, 1, none⟩ = false ∧ w.frozen? ⟨g, 2, none⟩ = false := by
  refine ⟨?_, ?_, ?_, ?_, ?_⟩ <;> simp [World.cell?, World.frozen?, h, stObj]

theorem st_set {w : World} {g : Nat} {room used : Int} {m : Option Nat} (h : w.heap[g]? = some (stObj room used m)) (m' : Option Nat) (u : Int) :
    (w.setCell ⟨g, 2, none⟩ (.map m')).heap[g]? = some (stObj room used m') ∧ (w.setCell ⟨g, 1, none⟩ (.int .i64 u)).heap[g]? = some (stObj room u m) := by
  obtain ⟨hlt, he⟩ := Array.getElem?_eq_some_iff.1 h
  constructor <;> simp [World.setCell, Array.getElem_modify, hlt, he, stObj]

theorem grown_setCell (w : World) (g j : Nat) (x : Value) : w.grownBy (w.setCell ⟨g, j, none⟩ x) (some g) :=
  ⟨rfl, rfl, rfl, by simp [World.setCell], fun k _ hk => Below.heap_setCell _ _ _ _ (by simp; intro e; exact hk (by rw [e]))⟩

theorem und98 : Tryz.prog.underlying 149 = some (.map 9 112) := by kernel_rfl

set_option maxRecDepth 100000 in
theorem storeNew_any (w : World) :
    Calls Tryz.prog 60 #[.int .i64 0] w fun e w' => e = .returned (.pointer (some ⟨w.heap.size, 0, none⟩)) ∧ w' = w.alloc (stObj 0 0 none) := by
  go_enter Tryz.func60, Tryz.ntmps60
  go_wp2
  go_ret
  exact ⟨rfl, rfl⟩

/-- What add keeps while the name and the bytes are copied. -/
def Pst (g mb : Nat) (w W : World) : Prop := W.heap[g]? = some (stObj 0 0 (some mb)) ∧ W.heap[mb]? = some (.map #[] 0) ∧ w.grownBy W (some g)

theorem Pst.later {g mb : Nat} {w W W' : World} (h : Pst g mb w W) (hb : Below W.heap.size W W') : Pst g mb w W' :=
  ⟨(hb.block g (lt_of_heap h.1)).trans h.1, (hb.block mb (lt_of_heap h.2.1)).trans h.2.1, grown_trans h.2.2 (below_grown hb _)⟩

theorem add_clone {g mb : Nat} {w W : World} (s : ByteArray) (h0 : ¬ s.size = 0) (hs : s.size ≤ 1000) (h : Pst g mb w W) :
    Calls Tryz.prog 128 #[.string s] W fun e W1 => e = .returned (.string s) ∧ Hid (Pst g mb w W1) ∧ W1.cell? ⟨g, 2, none⟩ = some (.map (some mb)) := by
  refine (clone_any s W h0 (by omega)).mono ?_
  rintro e W1 ⟨rfl, hb⟩
  have h1 := h.later hb
  exact ⟨rfl, h1, (st_cells h1.1).2.2.1⟩

theorem add_copy {g mb : Nat} {w W : World} (s : ByteArray) (a : Option Addr) (n cap : Nat) (l : List Int) (hmg : mb ≠ g) (hmw : w.heap.size ≤ mb) (h : Pst g mb w W) (hbs : ∀ W, w.grownBy W (some g) → Bs W a n cap l) (hn : n ≤ 1000) :
    Calls Tryz.prog 127 #[.slice a n cap] W fun e W2 => ∃ gv W3, e = .returned (.slice (some ⟨gv, 0, none⟩) n n) ∧ W2.cell? ⟨g, 2, none⟩ = some (.map (some mb)) ∧
      (Instr.mapUpdate 149 (.map (some mb)) (.string s) (.slice (some ⟨gv, 0, none⟩) n n)).run Tryz.prog W2 = .ok () W3 ∧
      Hid (W3.heap[mb]? = some (.map #[⟨.string s, .slice (some ⟨gv, 0, none⟩) n n, 0⟩] 1)) ∧ Hid (W3.heap[g]? = some (stObj 0 0 (some mb))) ∧ w.grownBy W3 (some g) := by
  refine (copyOfS a n cap l W (hbs W h.2.2) (by omega)).mono ?_
  rintro e W2 ⟨rfl, _, hb⟩
  have h2 := h.later hb
  obtain ⟨W3, hrun, h3, hgr⟩ := put_first und98 s (.slice (some ⟨W.heap.size, 0, none⟩) n n) W2 h2.2.1
  refine ⟨_, W3, rfl, (st_cells h2.1).2.2.1, hrun, h3, (hgr.block g (lt_of_heap h2.1) (by simp; exact Ne.symm hmg)).trans h2.1, ?_⟩
  refine ⟨hgr.os.trans h2.2.2.os, hgr.tape.trans h2.2.2.tape, hgr.output.trans h2.2.2.output, Nat.le_trans h2.2.2.size hgr.size, fun k hk hne => ?_⟩
  rw [hgr.block k (Nat.lt_of_lt_of_le hk h2.2.2.size) (by simp; omega)]
  exact h2.2.2.block k hk hne

set_option maxRecDepth 100000 in
set_option maxHeartbeats 800000 in
theorem storeAdd_first (g : Nat) (s : ByteArray) (a : Option Addr) (n cap : Nat) (l : List Int) (w : World) (hg : w.heap[g]? = some (stObj 0 0 none)) (h0 : ¬ s.size = 0) (hs : s.size ≤ 1000) (h : Bs w a n cap l) (hn : n ≤ 1000) :
    Calls Tryz.prog 97 #[.pointer (some ⟨g, 0, none⟩), .string s, .slice a n cap] w fun e w' => ∃ mb v, e = .returned (.tuple #[]) ∧ w'.heap[g]? = some (stObj 0 n (some mb)) ∧ w'.heap[mb]? = some (.map #[⟨.string s, v, 0⟩] 1) ∧ w.grownBy w' (some g) := by
  have hmm := @run_makeMap Tryz.prog
  have hnm := fun (W : World) (r : Option Nat) => run_eql_map_nil (P := Tryz.prog) W 149 9 112 r und98
  obtain ⟨c0, c1, c2, f1, f2⟩ := st_cells hg
  have hlt := lt_of_heap hg
  have hsz0 : (w.setCell ⟨g, 2, none⟩ (.map (some w.heap.size))).heap.size = w.heap.size := by simp [World.setCell]
  have F1 : Hid (((w.setCell ⟨g, 2, none⟩ (.map (some w.heap.size))).alloc (.map #[] 0)).heap[g]? = some (stObj 0 0 (some w.heap.size))) := by
    show _ = _
    rw [Below.heap_alloc _ _ _ (by rw [hsz0]; exact hlt)]
    exact (st_set hg _ 0).1
  have F2 : Hid (((w.setCell ⟨g, 2, none⟩ (.map (some w.heap.size))).alloc (.map #[] 0)).heap[w.heap.size]? = some (.map #[] 0)) := by
    have := heap_alloc_new (w.setCell ⟨g, 2, none⟩ (.map (some w.heap.size))) (.map #[] 0)
    rwa [hsz0] at this
  have F3 : Hid (w.grownBy ((w.setCell ⟨g, 2, none⟩ (.map (some w.heap.size))).alloc (.map #[] 0)) (some g)) :=
    grown_trans (grown_setCell w g 2 _) (World.grownBy_alloc _ _ _)
  have hne : ∀ b o n' c' l', Bs w (some ⟨b, o, none⟩) n' c' l' → 0 < n' → b ≠ g := by
    rintro b o n' c' l' hb hp rfl
    obtain ⟨b', o', e, hc⟩ := hb.2.2.2.2.1 hp
    obtain ⟨rfl, rfl⟩ : b = b' ∧ o = o' := by simpa using e
    have := hc 0 hp
    simp [World.cell?, hg, stObj] at this
    rcases o with _ | _ | _ | o <;> simp at this
  have F4 : Hid (∀ W, w.grownBy W (some g) → Bs W a n cap l) := by
    intro W hW
    obtain ⟨h1, h2, h3, h4, h5, h6⟩ := h
    refine ⟨h1, h2, h3, h4, fun hp => ?_, h6⟩
    obtain ⟨b, o, rfl, hc⟩ := h5 hp
    have := hne b o n cap l ⟨h1, h2, h3, h4, h5, h6⟩ hp
    exact ⟨b, o, rfl, fun i hi => hW.cell (hc i hi) (by simpa using this)⟩
  clear hsz0 hne h hg
  go_enter Tryz.func97, Tryz.ntmps97
  go_wp2
  generalize (w.setCell ⟨g, 2, none⟩ (.map (some w.heap.size))).alloc (.map #[] 0) = W0 at *
  clear c0 c1 c2 f1 f2
  obtain ⟨c0, c1, c2, f1, f2⟩ := st_cells F1.out
  have hP : Pst g w.heap.size w W0.drew := ⟨F1.out, F2.out, grown_drew F3.out⟩
  have HP := hide hP
  have HM : Hid (w.heap.size ≠ g) := by show _ ≠ _; omega
  clear hP F1 F2 F3
  go_region_with (first | (go_at_call 128; (refine (add_clone s h0 hs HP.out).mono ?_; rintro e W1 ⟨rfl, HP1, d2⟩)) | (go_at_call 127; (refine (add_copy s a n cap l HM.out (Nat.le_refl _) HP1.out F4.out hn).mono ?_; rintro e W2 ⟨gv, W3, rfl, e2, hrun, H3m, H3g, hgr3⟩)))
  all_goals
    obtain ⟨k0, k1, k2, l1, l2⟩ := st_cells H3g.out
    go_wp2
  all_goals
    go_end0
    exact ⟨w.heap.size, _, rfl, (st_set H3g.out Option.none (n : Int)).2, (Below.heap_setCell _ _ _ _ (by simp; exact HM.out)).trans H3m.out, grown_trans hgr3 (grown_setCell _ _ _ _)⟩

set_option maxRecDepth 100000 in
theorem fits_0 (g n : Nat) (w : World) (hg : w.heap[g]? = some (stObj 0 0 none)) :
    Calls Tryz.prog 96 #[.pointer (some ⟨g, 0, none⟩), .int .i64 n] w fun e w' => e = .returned (.bool true) ∧ ∃ nq, w' = w.drewN nq := by
  obtain ⟨c0, c1, c2, f1, f2⟩ := st_cells hg
  go_enter Tryz.func96, Tryz.ntmps96
  go_wp2
  go_quiet (fail)
  go_wp2
  go_ret
  exact ⟨rfl, nq, rfl⟩

set_option maxRecDepth 100000 in
set_option maxHeartbeats 800000 in
theorem storePut_first (g : Nat) (s : ByteArray) (a : Option Addr) (n cap : Nat) (l : List Int) (w : World) (hg : w.heap[g]? = some (stObj 0 0 none)) (h0 : 1 ≤ s.size) (hs : s.size ≤ 40) (h : Bs w a n cap l) (hn : n ≤ 1000) :
    Calls Tryz.prog 62 #[.pointer (some ⟨g, 0, none⟩), .string s, .slice a n cap, .bool false] w fun e w' => ∃ mb v, e = .returned (.int .i64 0) ∧ w'.heap[g]? = some (stObj 0 n (some mb)) ∧ w'.heap[mb]? = some (.map #[⟨.string s, v, 0⟩] 1) ∧ w.grownBy w' (some g) := by
  obtain ⟨c0, c1, c2, f1, f2⟩ := st_cells hg
  have lk := fun W => look_nothing und98 s true W
  simp only [if_true] at lk
  have d1 : decide ((s.size : Int) ≤ 40) = true := by simp; omega
  have d2 : decide (1 ≤ (s.size : Int)) = true := by simp; omega
  have HF := hide (fits_0 g n w hg)
  have HG := hide hg
  have HB := hide h
  clear hg h
  go_enter Tryz.func62, Tryz.ntmps62
  go_wp2_with (first | (go_at_call 94; go_in) | fail)
  refine HF.out.mono ?_
  rintro e w1 ⟨rfl, nq, rfl⟩
  have hD := below_drewN (Below.refl (w.heap.size + g + 1) w) nq
  have HA := hide (storeAdd_first g s a n cap l (w.drewN nq) ((hD.block g (by omega)).trans HG.out) (by omega) (by omega) (HB.out.later hD (by omega)) hn)
  clear hD
  go_wp2_with fail
  refine HA.out.mono ?_
  rintro e w2 ⟨mb, v, rfl, h1, h2, h3⟩
  have H1 := hide h1
  have H2 := hide h2
  have hD := below_drewN (Below.refl (w.heap.size + g + 1) w) nq
  have H3 := hide (grown_trans (below_grown (hD.mono (by omega)) (some g)) h3)
  clear h1 h2 h3 hD
  go_wp2
  go_ret
  exact ⟨mb, v, rfl, H1.out, H2.out, H3.out⟩

set_option maxRecDepth 100000 in
set_option maxHeartbeats 800000 in
theorem storeHas_one (g mb b : Nat) (u : Int) (s : ByteArray) (v : Value) (w : World) (hg : w.heap[g]? = some (stObj 0 u (some mb))) (hm : w.heap[mb]? = some (.map #[⟨.string s, v, 0⟩] 1)) (hb : w.cell? ⟨b, 0, none⟩ = some (.string s)) :
    Calls Tryz.prog 69 #[.pointer (some ⟨g, 0, none⟩), .slice (some ⟨b, 0, none⟩) 1 1] w fun e w' => e = .returned (.bool true) ∧ Below w.heap.size w w' := by
  obtain ⟨c0, c1, c2, f1, f2⟩ := st_cells hg
  have lk := look_one und98 s true w hm
  simp only [if_true] at lk
  clear hg hm
  go_enter Tryz.func69, Tryz.ntmps69
  go_wp2
  refine wp_loop_rounds 2 ?_
  rw [rounds_succ]
  go_wp2
  rw [rounds_succ]
  go_wp2
  go_ret
  refine ⟨rfl, ?_⟩
  repeat (first | exact Below.refl _ _ | refine Below.drew ?_ | refine Below.alloc ?_ (by first | (simp; done) | (simp; omega)) _)
end Go.Proofs.YtdogecaonlmalaaGreat
