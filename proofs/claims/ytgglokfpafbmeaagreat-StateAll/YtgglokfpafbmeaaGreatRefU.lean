/- The program's state and the document's, side by side. -/
import Derived.Test.YtgglokfpafbmeaaGreatRefZ
namespace Go.Proofs.YtgglokfpafbmeaaGreat
open Go.RowKit Go.MapKept Go.ChangeMaps

set_option maxRecDepth 100000 in
/-- Do of no changes. -/
theorem Sg.nothing {W : World} {O : Nat → Prop} {s gv gl gd N : Nat} {a : Ab} (h : Sg W O s gv gl gd a N) (pa : Option Addr) (cc : Nat) :
    Calls Tryz.prog 25 #[.pointer (some ⟨s, 0, none⟩), .slice pa 0 cc] W fun e w' => e = .returned (.int .i64 0) ∧ Below W.heap.size W w' := by
  have hm : Ms W pa 0 (([] : List Mq).map Mq.m) := ⟨rfl, fun e => absurd e (Nat.lt_irrefl _)⟩
  have HA := hide (allMay_any pa 0 cc (([] : List Mq).map Mq.m) W hm (by omega))
  have HRM : Hid (∀ w, Below W.heap.size W w → Calls Tryz.prog 55 #[.pointer (some ⟨s, 0, none⟩), .slice pa 0 cc] w fun e w' => e = .returned (.bool true) ∧ Below w.heap.size w w') := fun w hb =>
    hasRoom_any O s gv gl gd N a.V a.L a.D pa 0 cc [] w (StaS.later h.st hb) h.ll (hm.later hb (Nat.le_refl _)) (by omega)
  have HCP : Hid (∀ w, Below W.heap.size W w → Calls Tryz.prog 56 #[.pointer (some ⟨s, 0, none⟩)] w fun e w' => e = .returned (.tuple #[]) ∧ w' = w) := fun w hb => stateComplete s gv gl gd w (StaS.later h.st hb).obj
  clear h hm
  go_enter Tryz.func25, Tryz.ntmps25
  go_wp2_with fail
  refine HA.out.mono ?_
  rintro e w1 ⟨rfl, hb1⟩
  have HB1 := hide hb1
  clear hb1 HA
  go_wp2_with fail
  refine (HRM.out _ HB1.out).mono ?_
  rintro e w2 ⟨rfl, hb2⟩
  have HB2 := hide (HB1.out.trans (hb2.mono HB1.out.size))
  clear hb2 HB1 HRM
  go_wp2_with fail
  refine (HCP.out _ HB2.out).mono ?_
  rintro e w3 ⟨rfl, rfl⟩
  clear HCP
  go_wp2
  go_loopw [23] (fun i wr => i = .int .i64 0 ∧ Hid (Below W.heap.size W wr)) (fun _ _ => 0)
  case atStart => exact ⟨rfl, HB2⟩
  case round =>
    obtain ⟨rfl, HB⟩ := hrel
    clear HB2
    go_wp2
    go_ret
    exact ⟨rfl, HB.out⟩

/-- The program's Do, whatever the changes are. -/
theorem Sg.doAny {W : World} {O : Nat → Prop} {s gv gl gd N : Nat} {a : Ab} (h : Sg W O s gv gl gd a N) (hO : ∀ k, W.heap.size ≤ k → O k) (pa : Option Addr) (n cc : Nat) (xs : List Mq) (hm : Ms W pa n (xs.map Mq.m)) (hn : n ≤ 100000) (hpa : 0 < n → ∀ b o, pa = some ⟨b, o, none⟩ → ¬ O b) :
    Calls Tryz.prog 25 #[.pointer (some ⟨s, 0, none⟩), .slice pa n cc] W fun e w' => e = .returned (.int .i64 (dErr a xs)) ∧ Sg w' O s gv gl gd (dQ a xs) (N + n) ∧ Tch O W w' := by
  cases hmay : (xs.map Mq.m).all mayB with
  | false =>
    obtain ⟨e1, e2⟩ := d_form (a := a) hmay
    rw [e1, e2]
    refine (h.form pa n cc _ hm hn hmay).mono ?_
    rintro e w' ⟨r1, r2⟩
    exact ⟨r1, (h.later r2).more (by omega), Below.tch r2⟩
  | true =>
    cases hroom : roomB a.L (fun _ => none) xs with
    | false =>
      obtain ⟨e1, e2⟩ := d_full (a := a) hmay hroom
      rw [e1, e2]
      refine (do_full O s gv gl gd N a pa n cc xs W h.st h.ll hm hn hmay hroom).mono ?_
      rintro e w' ⟨r1, r2⟩
      exact ⟨r1, (h.later r2).more (by omega), Below.tch r2⟩
    | true =>
      obtain ⟨e1, e2⟩ := d_ok (a := a) hmay hroom
      rw [e1, e2]
      rcases Nat.eq_zero_or_pos n with rfl | hpos
      · have e3 : xs = [] := by have := hm.1; rw [List.length_map] at this; exact List.length_eq_zero_iff.1 this
        subst e3
        refine (h.nothing pa cc).mono ?_
        rintro e w' ⟨r1, r2⟩
        exact ⟨r1, (h.later r2).more (by omega), Below.tch r2⟩
      · exact h.do' hO pa n cc xs hm hn (hpa hpos) hmay hroom

/-- A row of the cells of a. -/
def CellsRf (w : World) (v : Value) (a : Ab) : Prop := ∃ ks, Kof a ks ∧ RdC w v (ks.map a.at)
/-- The same, and not too many. -/
def CellsAt (w : World) (v : Value) (a : Ab) : Prop := ∃ ks, Kof a ks ∧ RdC w v (ks.map a.at) ∧ ks.length ≤ 3000
theorem CellsRf.later {w w' : World} {v : Value} {a : Ab} (h : CellsRf w v a) (hb : Below w.heap.size w w') : CellsRf w' v a := by
  obtain ⟨ks, h1, h2⟩ := h
  exact ⟨ks, h1, h2.later hb⟩
theorem CellsAt.later {w w' : World} {v : Value} {a : Ab} (h : CellsAt w v a) (hb : Below w.heap.size w w') : CellsAt w' v a := by
  obtain ⟨ks, h1, h2, h3⟩ := h
  exact ⟨ks, h1, h2.later hb, h3⟩
theorem Kof.one {a : Ab} {ks ks' : List K3} (h : Kof a ks) (h' : Kof a ks') : ks' = ks := rise_eq h'.1 h.1 (fun k => (h'.2 k).trans (h.2 k).symm)

/-- Two states: the program's is a, the document's is b. -/
structure Tw (F : Nat → Prop) (w0 W : World) (s gv gl gd r : Nat) (a b : Ab) (N : Nat) : Prop where
  own : ∃ O1 O2 : Nat → Prop, Sg W O1 s gv gl gd a N ∧ Rf W O2 r b ∧ (∀ k, k < W.heap.size → O1 k → ¬ O2 k) ∧ (∀ k, O1 k → k < W.heap.size ∧ w0.heap.size ≤ k) ∧ (∀ k, O2 k → k < W.heap.size ∧ w0.heap.size ≤ k) ∧ ∀ k, F k → k < W.heap.size ∧ ¬ O1 k ∧ ¬ O2 k
  bel : Below w0.heap.size w0 W
section
variable {F : Nat → Prop} {w0 W W' : World} {s gv gl gd r N : Nat} {a b : Ab}
theorem Tw.later (h : Tw F w0 W s gv gl gd r a b N) (hb : Below W.heap.size W W') : Tw F w0 W' s gv gl gd r a b N := by
  obtain ⟨O1, O2, h1, h2, h3, h4, h5, h6⟩ := h.own
  have := hb.size
  exact ⟨⟨O1, O2, h1.later hb, h2.later hb, fun k _ k1 => h3 k (h4 k k1).1 k1, fun k k1 => ⟨by have := (h4 k k1).1; omega, (h4 k k1).2⟩, fun k k1 => ⟨by have := (h5 k k1).1; omega, (h5 k k1).2⟩, fun k k1 => ⟨by have := (h6 k k1).1; omega, (h6 k k1).2⟩⟩, h.bel.trans (hb.mono h.bel.size)⟩
theorem Tw.more {M : Nat} (h : Tw F w0 W s gv gl gd r a b N) (hM : N ≤ M) : Tw F w0 W s gv gl gd r a b M := by
  obtain ⟨O1, O2, h1, h2, h3, h4, h5, h6⟩ := h.own
  exact ⟨⟨O1, O2, h1.more hM, h2, h3, h4, h5, h6⟩, h.bel⟩
/-- The law's own blocks. -/
theorem Tw.hold {F' : Nat → Prop} (h : Tw F w0 W s gv gl gd r a b N) (hb : Below W.heap.size W W') (hF : ∀ k, F' k → W.heap.size ≤ k ∧ k < W'.heap.size) : Tw F' w0 W' s gv gl gd r a b N := by
  obtain ⟨O1, O2, h1, h2, h3, h4, h5, h6⟩ := (h.later hb).own
  obtain ⟨P1, P2, g1, g2, g3, g4, g5, g6⟩ := h.own
  have := hb.size
  exact ⟨⟨P1, P2, g1.later hb, g2.later hb, fun k _ k1 => g3 k (g4 k k1).1 k1, fun k k1 => ⟨by have := (g4 k k1).1; omega, (g4 k k1).2⟩, fun k k1 => ⟨by have := (g5 k k1).1; omega, (g5 k k1).2⟩, fun k k1 => ⟨(hF k k1).2, fun k2 => by have := (g4 k k2).1; have := (hF k k1).1; omega, fun k2 => by have := (g5 k k2).1; have := (hF k k1).1; omega⟩⟩, h.bel.trans (hb.mono h.bel.size)⟩
/-- Two new states. -/
theorem Tw.new {w w0 : World} (hb : Below w.heap.size w w0) : Tw (fun _ => False) w ((newSt w0).alloc (.cells stZ 109)) (w0.heap.size + 1 + 1 + 1) w0.heap.size (w0.heap.size + 1) (w0.heap.size + 1 + 1) (newSt w0).heap.size ab0 ab0 0 := by
  have hbN := newSt_below w0
  have hbA := below_alloc (newSt w0) (.cells stZ 109) (newSt w0).heap.size (Nat.le_refl _)
  have z0 := hb.size
  have z1 := hbN.size
  have z2 := hbA.size
  exact ⟨⟨fun k => w0.heap.size ≤ k ∧ k < (newSt w0).heap.size, fun k => (newSt w0).heap.size ≤ k ∧ k < ((newSt w0).alloc (.cells stZ 109)).heap.size, ((Sg.new w0).wide (fun k h1 h2 => ⟨h1, h2⟩)).later hbA, (Rf.zero (newSt w0)).wide (fun k h1 h2 => ⟨h1, h2⟩), fun k _ k1 k2 => by have := k1.2; have := k2.1; omega, fun k k1 => ⟨by have := k1.2; omega, by have := k1.1; omega⟩, fun k k1 => ⟨k1.2, by have := k1.1; omega⟩, fun k k1 => k1.elim⟩, hb.trans ((hbN.mono z0).trans (hbA.mono (Nat.le_trans z0 z1)))⟩
/-- The program's Do. -/
theorem Tw.do1 (h : Tw F w0 W s gv gl gd r a b N) (pa : Option Addr) (n cc : Nat) (xs : List Mq) (hm0 : Ms w0 pa n (xs.map Mq.m)) (hn : n ≤ 100000) :
    Calls Tryz.prog 25 #[.pointer (some ⟨s, 0, none⟩), .slice pa n cc] W fun e w' => e = .returned (.int .i64 (dErr a xs)) ∧ Tw F w0 w' s gv gl gd r (dQ a xs) b (N + n) ∧ ∀ k, F k → w'.heap[k]? = W.heap[k]? := by
  obtain ⟨O1, O2, h1, h2, h3, h4, h5, h6⟩ := h.own
  have hz := h.bel.size
  have hw : Sg W (fun k => O1 k ∨ W.heap.size ≤ k) s gv gl gd a N := h1.wide (fun k hk _ => Or.inl hk)
  have hm := hm0.later h.bel (Nat.le_refl _)
  refine (hw.doAny (fun k hk => Or.inr hk) pa n cc xs hm hn (fun hpos j o e h6 => ?_)).mono ?_
  · have : j < w0.heap.size := by
      obtain ⟨b, o', e', hc⟩ := hm0.2 hpos
      rw [e] at e'
      obtain ⟨rfl, rfl⟩ : j = b ∧ o = o' := by simpa using e'
      obtain ⟨m, hm1⟩ : ∃ m, (xs.map Mq.m)[0]? = some m := ⟨_, List.getElem?_eq_getElem (by rw [hm0.1]; exact hpos)⟩
      exact World.block_lt_of_cell? w0 _ (hc 0 m hm1).1
    rcases h6 with h6 | h6
    · have := (h4 j h6).2; omega
    · omega
  rintro e w' ⟨r1, r2, r3⟩
  have hs := r3.size
  refine ⟨r1, ⟨⟨fun k => (O1 k ∨ W.heap.size ≤ k) ∧ k < w'.heap.size, O2, r2.wide (fun k hk hl => ⟨hk, hl⟩), h2.tch r3 (fun k k1 k2 k3 => ?_), fun k _ k1 k2 => ?_, fun k k1 => ⟨k1.2, ?_⟩, fun k k1 => ⟨by have := (h5 k k1).1; omega, (h5 k k1).2⟩, fun k k1 => ⟨by have := (h6 k k1).1; omega, fun k2 => ?_, (h6 k k1).2.2⟩⟩, h.bel.trans (r3.below (fun k hk k1 => ?_) hz)⟩, fun k k1 => r3.block k (h6 k k1).1 (fun k2 => ?_)⟩
  · rcases k3 with k3 | k3
    · exact h3 k k2 k3 k1
    · omega
  · rcases k1.1 with k3 | k3
    · exact h3 k (h4 k k3).1 k3 k2
    · have := (h5 k k2).1; omega
  · rcases k1.1 with k3 | k3
    · exact (h4 k k3).2
    · omega
  · rcases k2.1 with k3 | k3
    · exact (h6 k k1).2.1 k3
    · have := (h6 k k1).1; omega
  · rcases k1 with k3 | k3
    · have := (h4 k k3).2; omega
    · omega
  · rcases k2 with k3 | k3
    · exact (h6 k k1).2.1 k3
    · have := (h6 k k1).1; omega
/-- The document's Do. -/
theorem Tw.do2 (h : Tw F w0 W s gv gl gd r a b N) (pa : Option Addr) (n cc : Nat) (xs : List Mq) (hm0 : Ms w0 pa n (xs.map Mq.m)) (hn : n ≤ 100000) :
    Calls Tryz.prog 26 #[.pointer (some ⟨r, 0, none⟩), .slice pa n cc] W fun e w' => e = .returned (.int .i64 (dErr b xs)) ∧ Tw F w0 w' s gv gl gd r a (dQ b xs) N ∧ ∀ k, F k → w'.heap[k]? = W.heap[k]? := by
  obtain ⟨O1, O2, h1, h2, h3, h4, h5, h6⟩ := h.own
  have hz := h.bel.size
  have hw : Rf W (fun k => O2 k ∨ W.heap.size ≤ k) r b := h2.wide (fun k hk _ => Or.inl hk)
  have hr := h2.own
  have hm := hm0.later h.bel (Nat.le_refl _)
  refine (refDo hw (fun k hk => Or.inr hk) pa n cc xs hm hn).mono ?_
  rintro e w' ⟨r1, r2, r3⟩
  have hs := r3.size
  refine ⟨r1, ⟨⟨O1, fun k => (O2 k ∨ W.heap.size ≤ k) ∧ k < w'.heap.size, h1.tch r3 (fun k k1 k2 k3 => h3 k k2 k1 (by rw [k3]; exact hr)), r2.wide (fun k hk hl => ⟨hk, hl⟩), fun k _ k1 k2 => ?_, fun k k1 => ⟨by have := (h4 k k1).1; omega, (h4 k k1).2⟩, fun k k1 => ⟨k1.2, ?_⟩, fun k k1 => ⟨by have := (h6 k k1).1; omega, (h6 k k1).2.1, fun k2 => ?_⟩⟩, h.bel.trans (r3.below (fun k hk k1 => ?_) hz)⟩, fun k k1 => r3.block k (h6 k k1).1 (fun k2 => ?_)⟩
  · rcases k2.1 with k3 | k3
    · exact h3 k (h4 k k1).1 k1 k3
    · have := (h4 k k1).1; omega
  · rcases k1.1 with k3 | k3
    · exact (h5 k k3).2
    · omega
  · rcases k2.1 with k3 | k3
    · exact (h6 k k1).2.2 k3
    · have := (h6 k k1).1; omega
  · subst k1
    have := (h5 k hr).2; omega
  · subst k2
    exact (h6 k k1).2.2 hr
/-- The program's cells. -/
theorem Tw.cells1 (h : Tw F w0 W s gv gl gd r a b N) (hN : N ≤ 1000) :
    Calls Tryz.prog 28 #[.pointer (some ⟨s, 0, none⟩)] W fun e w' => ∃ v, e = .returned v ∧ CellsAt w' v a ∧ Tw F w0 w' s gv gl gd r a b N ∧ Below W.heap.size W w' := by
  obtain ⟨O1, O2, h1, h2, h3, h4, h5, h6⟩ := h.own
  refine (h1.told hN).mono ?_
  rintro e w' ⟨v, xs, ks, r1, r2, r3, r4, r5, r6⟩
  exact ⟨v, r1, ⟨ks, r2, by rw [← r4]; exact r5.rdC, by omega⟩, h.later r6, r6⟩
/-- The document's cells. -/
theorem Tw.cells2 (h : Tw F w0 W s gv gl gd r a b N) :
    Calls Tryz.prog 29 #[.pointer (some ⟨r, 0, none⟩)] W fun e w' => ∃ v, e = .returned v ∧ CellsRf w' v b ∧ Tw F w0 w' s gv gl gd r a b N ∧ Below W.heap.size W w' := by
  obtain ⟨O1, O2, h1, h2, h3, h4, h5, h6⟩ := h.own
  refine (refCells h2).mono ?_
  rintro e w' ⟨v, r1, xs, ks, r2, r4, r5, r6⟩
  exact ⟨v, r1, ⟨ks, r2, by rw [← r4]; exact r5.own.rdC⟩, h.later r6, r6⟩
/-- They are the same. -/
theorem Tw.same (h : Tw F w0 W s gv gl gd r a a N) {v1 v2 : Value} (h1 : CellsAt W v1 a) (h2 : CellsRf W v2 a) :
    Calls Tryz.prog 27 #[v1, v2] W fun e w' => e = .returned (.bool true) ∧ Tw F w0 w' s gv gl gd r a a N ∧ Below W.heap.size W w' := by
  obtain ⟨O1, O2, g1, _⟩ := h.own
  obtain ⟨ks, k1, k2, k5⟩ := h1
  obtain ⟨ks', k3, k4⟩ := h2
  rw [k1.one k3] at k4
  have hl : (ks.map a.at).length ≤ 100000 := by rw [List.length_map]; omega
  refine (refEqC k2 k4 hl (fun x hx => ?_)).mono ?_
  · obtain ⟨k, _, rfl⟩ := List.mem_map.1 hx
    exact ⟨by have := g1.ll k; show (a.L k).length ≤ 1000; omega, by have := g1.dl k; show (a.D k).length ≤ 1000; omega⟩
  rintro e w' ⟨r1, r2⟩
  exact ⟨r1, h.later r2, r2⟩
end
end Go.Proofs.YtgglokfpafbmeaaGreat
