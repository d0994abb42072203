/- The program's state and the document's, side by side. Two states side by side: the parts of the program's one told a change on their own. -/
import Derived.Test.YtiofkcmdgijjoaaGreatRefZ
namespace Go.Proofs.YtiofkcmdgijjoaaGreat
open Go.RowKit Go.MapKept Go.ChangeMaps

set_option maxRecDepth 100000 in
/-- Do of no changes. -/
theorem Sg.nothing {W : World} {O : Nat → Prop} {s gv gl gd N : Nat} {a : Ab} (h : Sg W O s gv gl gd a N) (pa : Option Addr) (cc : Nat) :
    Calls Tryz.prog 18 #[.pointer (some ⟨s, 0, none⟩), .slice pa 0 cc] W fun e w' => e = .returned (.int .i64 0) ∧ Below W.heap.size W w' := by
  have hm : Ms W pa 0 (([] : List Mq).map Mq.m) := ⟨rfl, fun e => absurd e (Nat.lt_irrefl _)⟩
  have HA := hide (allMay_any pa 0 cc (([] : List Mq).map Mq.m) W hm (by omega))
  have HRM : Hid (∀ w, Below W.heap.size W w → Calls Tryz.prog 45 #[.pointer (some ⟨s, 0, none⟩), .slice pa 0 cc] w fun e w' => e = .returned (.bool true) ∧ Below w.heap.size w w') := fun w hb =>
    hasRoom_any O s gv gl gd N a.V a.L a.D pa 0 cc [] w (StaS.later h.st hb) h.ll (hm.later hb (Nat.le_refl _)) (by omega)
  have HCP : Hid (∀ w, Below W.heap.size W w → Calls Tryz.prog 46 #[.pointer (some ⟨s, 0, none⟩)] w fun e w' => e = .returned (.tuple #[]) ∧ w' = w) := fun w hb => stateComplete s gv gl gd w (StaS.later h.st hb).obj
  clear h hm
  go_enter Tryz.func18, Tryz.ntmps18
  go_wp2_with fail
  refine HA.out.mono ?_
  rintro e w1 ⟨rfl, hb1⟩
  have HB1 := hide hb1
  clear hb1 HA
  go_wp2_with fail
  refine (HRM.out _ HB1.out).mono ?_
  rintro e w2 ⟨rfl, hb2⟩
  have HB2 := hide (HB1.out.trans (hb2.mono HB1.out.size))
  clear hb2 HB1 HRM
  go_wp2_with fail
  refine (HCP.out _ HB2.out).mono ?_
  rintro e w3 ⟨rfl, rfl⟩
  clear HCP
  go_wp2
  go_loopw [23] (fun i wr => i = .int .i64 0 ∧ Hid (Below W.heap.size W wr)) (fun _ _ => 0)
  case atStart => exact ⟨rfl, HB2⟩
  case round =>
    obtain ⟨rfl, HB⟩ := hrel
    clear HB2
    go_wp2
    go_ret
    exact ⟨rfl, HB.out⟩

/-- The program's Do, whatever the changes are. -/
theorem Sg.doAny {W : World} {O : Nat → Prop} {s gv gl gd N : Nat} {a : Ab} (h : Sg W O s gv gl gd a N) (hO : ∀ k, W.heap.size ≤ k → O k) (pa : Option Addr) (n cc : Nat) (xs : List Mq) (hm : Ms W pa n (xs.map Mq.m)) (hn : n ≤ 100000) (hpa : 0 < n → ∀ b o, pa = some ⟨b, o, none⟩ → ¬ O b) :
    Calls Tryz.prog 18 #[.pointer (some ⟨s, 0, none⟩), .slice pa n cc] W fun e w' => e = .returned (.int .i64 (dErr a xs)) ∧ Sg w' O s gv gl gd (dQ a xs) (N + n) ∧ Tch O W w' := by
  cases hmay : (xs.map Mq.m).all mayB with
  | false =>
    obtain ⟨e1, e2⟩ := d_form (a := a) hmay
    rw [e1, e2]
    refine (h.form pa n cc _ hm hn hmay).mono ?_
    rintro e w' ⟨r1, r2⟩
    exact ⟨r1, (h.later r2).more (by omega), Below.tch r2⟩
  | true =>
    cases hroom : roomB a.L (fun _ => none) xs with
    | false =>
      obtain ⟨e1, e2⟩ := d_full (a := a) hmay hroom
      rw [e1, e2]
      refine (do_full O s gv gl gd N a pa n cc xs W h.st h.ll hm hn hmay hroom).mono ?_
      rintro e w' ⟨r1, r2⟩
      exact ⟨r1, (h.later r2).more (by omega), Below.tch r2⟩
    | true =>
      obtain ⟨e1, e2⟩ := d_ok (a := a) hmay hroom
      rw [e1, e2]
      rcases Nat.eq_zero_or_pos n with rfl | hpos
      · have e3 : xs = [] := by have := hm.1; rw [List.length_map] at this; exact List.length_eq_zero_iff.1 this
        subst e3
        refine (h.nothing pa cc).mono ?_
        rintro e w' ⟨r1, r2⟩
        exact ⟨r1, (h.later r2).more (by omega), Below.tch r2⟩
      · exact h.do' hO pa n cc xs hm hn (hpa hpos) hmay hroom

/-- A row of the cells of a. -/
def CellsRf (w : World) (v : Value) (a : Ab) : Prop := ∃ ks, Kof a ks ∧ RdC w v (ks.map a.at)
/-- The same, and not too many. -/
def CellsAt (w : World) (v : Value) (a : Ab) : Prop := ∃ ks, Kof a ks ∧ RdC w v (ks.map a.at) ∧ ks.length ≤ 3000
theorem CellsRf.later {w w' : World} {v : Value} {a : Ab} (h : CellsRf w v a) (hb : Below w.heap.size w w') : CellsRf w' v a := by
  obtain ⟨ks, h1, h2⟩ := h
  exact ⟨ks, h1, h2.later hb⟩
theorem CellsAt.later {w w' : World} {v : Value} {a : Ab} (h : CellsAt w v a) (hb : Below w.heap.size w w') : CellsAt w' v a := by
  obtain ⟨ks, h1, h2, h3⟩ := h
  exact ⟨ks, h1, h2.later hb, h3⟩
theorem Kof.one {a : Ab} {ks ks' : List K3} (h : Kof a ks) (h' : Kof a ks') : ks' = ks := rise_eq h'.1 h.1 (fun k => (h'.2 k).trans (h.2 k).symm)

/-- Two states: the program's is a, the document's is b. -/
structure Tw (F : Nat → Prop) (w0 W : World) (s gv gl gd r : Nat) (a b : Ab) (N : Nat) : Prop where
  own : ∃ O1 O2 : Nat → Prop, Sg W O1 s gv gl gd a N ∧ Rf W O2 r b ∧ (∀ k, k < W.heap.size → O1 k → ¬ O2 k) ∧ (∀ k, O1 k → k < W.heap.size ∧ w0.heap.size ≤ k) ∧ (∀ k, O2 k → k < W.heap.size ∧ w0.heap.size ≤ k) ∧ ∀ k, F k → k < W.heap.size ∧ ¬ O1 k ∧ ¬ O2 k
  bel : Below w0.heap.size w0 W
section
variable {F : Nat → Prop} {w0 W W' : World} {s gv gl gd r N : Nat} {a b : Ab}
theorem Tw.later (h : Tw F w0 W s gv gl gd r a b N) (hb : Below W.heap.size W W') : Tw F w0 W' s gv gl gd r a b N := by
  obtain ⟨O1, O2, h1, h2, h3, h4, h5, h6⟩ := h.own
  have := hb.size
  exact ⟨⟨O1, O2, h1.later hb, h2.later hb, fun k _ k1 => h3 k (h4 k k1).1 k1, fun k k1 => ⟨by have := (h4 k k1).1; omega, (h4 k k1).2⟩, fun k k1 => ⟨by have := (h5 k k1).1; omega, (h5 k k1).2⟩, fun k k1 => ⟨by have := (h6 k k1).1; omega, (h6 k k1).2⟩⟩, h.bel.trans (hb.mono h.bel.size)⟩
theorem Tw.more {M : Nat} (h : Tw F w0 W s gv gl gd r a b N) (hM : N ≤ M) : Tw F w0 W s gv gl gd r a b M := by
  obtain ⟨O1, O2, h1, h2, h3, h4, h5, h6⟩ := h.own
  exact ⟨⟨O1, O2, h1.more hM, h2, h3, h4, h5, h6⟩, h.bel⟩
/-- The law's own blocks. -/
theorem Tw.hold {F' : Nat → Prop} (h : Tw F w0 W s gv gl gd r a b N) (hb : Below W.heap.size W W') (hF : ∀ k, F' k → W.heap.size ≤ k ∧ k < W'.heap.size) : Tw F' w0 W' s gv gl gd r a b N := by
  obtain ⟨O1, O2, h1, h2, h3, h4, h5, h6⟩ := (h.later hb).own
  obtain ⟨P1, P2, g1, g2, g3, g4, g5, g6⟩ := h.own
  have := hb.size
  exact ⟨⟨P1, P2, g1.later hb, g2.later hb, fun k _ k1 => g3 k (g4 k k1).1 k1, fun k k1 => ⟨by have := (g4 k k1).1; omega, (g4 k k1).2⟩, fun k k1 => ⟨by have := (g5 k k1).1; omega, (g5 k k1).2⟩, fun k k1 => ⟨(hF k k1).2, fun k2 => by have := (g4 k k2).1; have := (hF k k1).1; omega, fun k2 => by have := (g5 k k2).1; have := (hF k k1).1; omega⟩⟩, h.bel.trans (hb.mono h.bel.size)⟩
/-- Two new states. -/
theorem Tw.new {w w0 : World} (hb : Below w.heap.size w w0) : Tw (fun _ => False) w ((newSt w0).alloc (.cells stZ 97)) (w0.heap.size + 1 + 1 + 1) w0.heap.size (w0.heap.size + 1) (w0.heap.size + 1 + 1) (newSt w0).heap.size ab0 ab0 0 := by
  have hbN := newSt_below w0
  have hbA := below_alloc (newSt w0) (.cells stZ 97) (newSt w0).heap.size (Nat.le_refl _)
  have z0 := hb.size
  have z1 := hbN.size
  have z2 := hbA.size
  exact ⟨⟨fun k => w0.heap.size ≤ k ∧ k < (newSt w0).heap.size, fun k => (newSt w0).heap.size ≤ k ∧ k < ((newSt w0).alloc (.cells stZ 97)).heap.size, ((Sg.new w0).wide (fun k h1 h2 => ⟨h1, h2⟩)).later hbA, (Rf.zero (newSt w0)).wide (fun k h1 h2 => ⟨h1, h2⟩), fun k _ k1 k2 => by have := k1.2; have := k2.1; omega, fun k k1 => ⟨by have := k1.2; omega, by have := k1.1; omega⟩, fun k k1 => ⟨k1.2, by have := k1.1; omega⟩, fun k k1 => k1.elim⟩, hb.trans ((hbN.mono z0).trans (hbA.mono (Nat.le_trans z0 z1)))⟩
/-- The program's Do. -/
theorem Tw.do1 (h : Tw F w0 W s gv gl gd r a b N) (pa : Option Addr) (n cc : Nat) (xs : List Mq) (hm0 : Ms w0 pa n (xs.map Mq.m)) (hn : n ≤ 100000) :
    Calls Tryz.prog 18 #[.pointer (some ⟨s, 0, none⟩), .slice pa n cc] W fun e w' => e = .returned (.int .i64 (dErr a xs)) ∧ Tw F w0 w' s gv gl gd r (dQ a xs) b (N + n) ∧ ∀ k, F k → w'.heap[k]? = W.heap[k]? := by
  obtain ⟨O1, O2, h1, h2, h3, h4, h5, h6⟩ := h.own
  have hz := h.bel.size
  have hw : Sg W (fun k => O1 k ∨ W.heap.size ≤ k) s gv gl gd a N := h1.wide (fun k hk _ => Or.inl hk)
  have hm := hm0.later h.bel (Nat.le_refl _)
  refine (hw.doAny (fun k hk => Or.inr hk) pa n cc xs hm hn (fun hpos j o e h6 => ?_)).mono ?_
  · have : j < w0.heap.size := by
      obtain ⟨b, o', e', hc⟩ := hm0.2 hpos
      rw [e] at e'
      obtain ⟨rfl, rfl⟩ : j = b ∧ o = o' := by simpa using e'
      obtain ⟨m, hm1⟩ : ∃ m, (xs.map Mq.m)[0]? = some m := ⟨_, List.getElem?_eq_getElem (by rw [hm0.1]; exact hpos)⟩
      exact World.block_lt_of_cell? w0 _ (hc 0 m hm1).1
    rcases h6 with h6 | h6
    · have := (h4 j h6).2; omega
    · omega
  rintro e w' ⟨r1, r2, r3⟩
  have hs := r3.size
  refine ⟨r1, ⟨⟨fun k => (O1 k ∨ W.heap.size ≤ k) ∧ k < w'.heap.size, O2, r2.wide (fun k hk hl => ⟨hk, hl⟩), h2.tch r3 (fun k k1 k2 k3 => ?_), fun k _ k1 k2 => ?_, fun k k1 => ⟨k1.2, ?_⟩, fun k k1 => ⟨by have := (h5 k k1).1; omega, (h5 k k1).2⟩, fun k k1 => ⟨by have := (h6 k k1).1; omega, fun k2 => ?_, (h6 k k1).2.2⟩⟩, h.bel.trans (r3.below (fun k hk k1 => ?_) hz)⟩, fun k k1 => r3.block k (h6 k k1).1 (fun k2 => ?_)⟩
  · rcases k3 with k3 | k3
    · exact h3 k k2 k3 k1
    · omega
  · rcases k1.1 with k3 | k3
    · exact h3 k (h4 k k3).1 k3 k2
    · have := (h5 k k2).1; omega
  · rcases k1.1 with k3 | k3
    · exact (h4 k k3).2
    · omega
  · rcases k2.1 with k3 | k3
    · exact (h6 k k1).2.1 k3
    · have := (h6 k k1).1; omega
  · rcases k1 with k3 | k3
    · have := (h4 k k3).2; omega
    · omega
  · rcases k2 with k3 | k3
    · exact (h6 k k1).2.1 k3
    · have := (h6 k k1).1; omega
/-- The document's Do. -/
theorem Tw.do2 (h : Tw F w0 W s gv gl gd r a b N) (pa : Option Addr) (n cc : Nat) (xs : List Mq) (hm0 : Ms w0 pa n (xs.map Mq.m)) (hn : n ≤ 100000) :
    Calls Tryz.prog 19 #[.pointer (some ⟨r, 0, none⟩), .slice pa n cc] W fun e w' => e = .returned (.int .i64 (dErr b xs)) ∧ Tw F w0 w' s gv gl gd r a (dQ b xs) N ∧ ∀ k, F k → w'.heap[k]? = W.heap[k]? := by
  obtain ⟨O1, O2, h1, h2, h3, h4, h5, h6⟩ := h.own
  have hz := h.bel.size
  have hw : Rf W (fun k => O2 k ∨ W.heap.size ≤ k) r b := h2.wide (fun k hk _ => Or.inl hk)
  have hr := h2.own
  have hm := hm0.later h.bel (Nat.le_refl _)
  refine (refDo hw (fun k hk => Or.inr hk) pa n cc xs hm hn).mono ?_
  rintro e w' ⟨r1, r2, r3⟩
  have hs := r3.size
  refine ⟨r1, ⟨⟨O1, fun k => (O2 k ∨ W.heap.size ≤ k) ∧ k < w'.heap.size, h1.tch r3 (fun k k1 k2 k3 => h3 k k2 k1 (by rw [k3]; exact hr)), r2.wide (fun k hk hl => ⟨hk, hl⟩), fun k _ k1 k2 => ?_, fun k k1 => ⟨by have := (h4 k k1).1; omega, (h4 k k1).2⟩, fun k k1 => ⟨k1.2, ?_⟩, fun k k1 => ⟨by have := (h6 k k1).1; omega, (h6 k k1).2.1, fun k2 => ?_⟩⟩, h.bel.trans (r3.below (fun k hk k1 => ?_) hz)⟩, fun k k1 => r3.block k (h6 k k1).1 (fun k2 => ?_)⟩
  · rcases k2.1 with k3 | k3
    · exact h3 k (h4 k k1).1 k1 k3
    · have := (h4 k k1).1; omega
  · rcases k1.1 with k3 | k3
    · exact (h5 k k3).2
    · omega
  · rcases k2.1 with k3 | k3
    · exact (h6 k k1).2.2 k3
    · have := (h6 k k1).1; omega
  · subst k1
    have := (h5 k hr).2; omega
  · subst k2
    exact (h6 k k1).2.2 hr
/-- The program's cells. -/
theorem Tw.cells1 (h : Tw F w0 W s gv gl gd r a b N) (hN : N ≤ 1000) :
    Calls Tryz.prog 26 #[.pointer (some ⟨s, 0, none⟩)] W fun e w' => ∃ v, e = .returned v ∧ CellsAt w' v a ∧ Tw F w0 w' s gv gl gd r a b N ∧ Below W.heap.size W w' := by
  obtain ⟨O1, O2, h1, h2, h3, h4, h5, h6⟩ := h.own
  refine (h1.told hN).mono ?_
  rintro e w' ⟨v, xs, ks, r1, r2, r3, r4, r5, r6⟩
  exact ⟨v, r1, ⟨ks, r2, by rw [← r4]; exact r5.rdC, by omega⟩, h.later r6, r6⟩
/-- The document's cells. -/
theorem Tw.cells2 (h : Tw F w0 W s gv gl gd r a b N) :
    Calls Tryz.prog 27 #[.pointer (some ⟨r, 0, none⟩)] W fun e w' => ∃ v, e = .returned v ∧ CellsRf w' v b ∧ Tw F w0 w' s gv gl gd r a b N ∧ Below W.heap.size W w' := by
  obtain ⟨O1, O2, h1, h2, h3, h4, h5, h6⟩ := h.own
  refine (refCells h2).mono ?_
  rintro e w' ⟨v, r1, xs, ks, r2, r4, r5, r6⟩
  exact ⟨v, r1, ⟨ks, r2, by rw [← r4]; exact r5.own.rdC⟩, h.later r6, r6⟩
/-- They are the same. -/
theorem Tw.same (h : Tw F w0 W s gv gl gd r a a N) {v1 v2 : Value} (h1 : CellsAt W v1 a) (h2 : CellsRf W v2 a) :
    Calls Tryz.prog 25 #[v1, v2] W fun e w' => e = .returned (.bool true) ∧ Tw F w0 w' s gv gl gd r a a N ∧ Below W.heap.size W w' := by
  obtain ⟨O1, O2, g1, _⟩ := h.own
  obtain ⟨ks, k1, k2, k5⟩ := h1
  obtain ⟨ks', k3, k4⟩ := h2
  rw [k1.one k3] at k4
  have hl : (ks.map a.at).length ≤ 100000 := by rw [List.length_map]; omega
  refine (refEqC k2 k4 hl (fun x hx => ?_)).mono ?_
  · obtain ⟨k, _, rfl⟩ := List.mem_map.1 hx
    exact ⟨by have := g1.ll k; show (a.L k).length ≤ 1000; omega, by have := g1.dl k; show (a.D k).length ≤ 1000; omega⟩
  rintro e w' ⟨r1, r2⟩
  exact ⟨r1, h.later r2, r2⟩
end
end Go.Proofs.YtiofkcmdgijjoaaGreat

namespace Go.Proofs.YtiofkcmdgijjoaaGreat
open Go.RowKit Go.MapKept Go.ChangeMaps
section
variable {F : Nat → Prop} {w0 W : World} {s gv gl gd r N : Nat} {a b : Ab}
/-- The program's state turns. -/
theorem Tw.turn1 (h : Tw F w0 W s gv gl gd r a b N) : ∃ O : Nat → Prop, Sg W O s gv gl gd a N ∧ (∀ k, W.heap.size ≤ k → O k) ∧ ∀ w' a' M, Sg w' O s gv gl gd a' M → Tch O W w' → Tw F w0 w' s gv gl gd r a' b M ∧ ∀ k, F k → w'.heap[k]? = W.heap[k]? := by
  obtain ⟨O1, O2, h1, h2, h3, h4, h5, h6⟩ := h.own
  have hz := h.bel.size
  refine ⟨fun k => O1 k ∨ W.heap.size ≤ k, h1.wide (fun k hk _ => Or.inl hk), fun k hk => Or.inr hk, fun w' a' M r2 r3 => ?_⟩
  have hs := r3.size
  refine ⟨⟨⟨fun k => (O1 k ∨ W.heap.size ≤ k) ∧ k < w'.heap.size, O2, r2.wide (fun k hk hl => ⟨hk, hl⟩), h2.tch r3 (fun k k1 k2 k3 => ?_), fun k _ k1 k2 => ?_, fun k k1 => ⟨k1.2, ?_⟩, fun k k1 => ⟨by have := (h5 k k1).1; omega, (h5 k k1).2⟩, fun k k1 => ⟨by have := (h6 k k1).1; omega, fun k2 => ?_, (h6 k k1).2.2⟩⟩, h.bel.trans (r3.below (fun k hk k1 => ?_) hz)⟩, fun k k1 => r3.block k (h6 k k1).1 (fun k2 => ?_)⟩
  · rcases k3 with k3 | k3
    · exact h3 k k2 k3 k1
    · omega
  · rcases k1.1 with k3 | k3
    · exact h3 k (h4 k k3).1 k3 k2
    · have := (h5 k k2).1; omega
  · rcases k1.1 with k3 | k3
    · exact (h4 k k3).2
    · omega
  · rcases k2.1 with k3 | k3
    · exact (h6 k k1).2.1 k3
    · have := (h6 k k1).1; omega
  · rcases k1 with k3 | k3
    · have := (h4 k k3).2; omega
    · omega
  · rcases k2 with k3 | k3
    · exact (h6 k k1).2.1 k3
    · have := (h6 k k1).1; omega
/-- What a part told a change leaves. -/
theorem Tw.ans {W' : World} {x : Mq} {O : Nat → Prop} (hk : ∀ w' a' M, Sg w' O s gv gl gd a' M → Tch O W w' → Tw F w0 w' s gv gl gd r a' b M ∧ ∀ k, F k → w'.heap[k]? = W.heap[k]?) (hs : Sg W O s gv gl gd a N) (hx : x.c = 5 → 0 ≤ x.f ∧ x.f < 8) (hl : x.c = 3 → (a.L x.k).length < 100) (h1 : AbS W' O s gv gl gd (doQ a x) (N + 1)) (h2 : Tch O W W') :
    Tw F w0 W' s gv gl gd r (doQ a x) b (N + 1) ∧ ∀ k, F k → W'.heap[k]? = W.heap[k]? := by
  refine hk W' _ _ ⟨h1, AbOK.doQ hs.ok hx, fun k => ?_⟩ h2
  have h3 := hs.ll k
  unfold doQ
  repeat' split
  all_goals first
    | exact h3
    | skip
  · rename_i e
    show (updR a.L x.k (a.L x.k ++ [x.v]) k).length ≤ 100
    unfold updR
    split
    · have := hl e; simp; omega
    · exact h3
  · show (updR a.L x.k [] k).length ≤ 100
    unfold updR
    split
    · simp
    · exact h3
theorem Tw.set (h : Tw F w0 W s gv gl gd r a b N) (k : K3) (v : Int) :
    Calls Tryz.prog 21 #[.pointer (some ⟨gv, 0, none⟩), k3E k, .int .i64 v] W fun e w' => e = .returned (.tuple #[]) ∧ Tw F w0 w' s gv gl gd r (doQ a ⟨1, k, 0, v⟩) b (N + 1) ∧ ∀ k, F k → w'.heap[k]? = W.heap[k]? := by
  obtain ⟨O, h1, h2, h3⟩ := h.turn1
  refine (stSet O s gv gl gd N a k v W h1.st h2).mono ?_
  rintro e w' ⟨r1, r2, r3⟩
  exact ⟨r1, Tw.ans (x := ⟨1, k, 0, v⟩) h3 h1 (fun e => absurd (show (1 : Int) = 5 from e) (by decide)) (fun e => absurd (show (1 : Int) = 3 from e) (by decide)) r2 r3⟩
theorem Tw.unset (h : Tw F w0 W s gv gl gd r a b N) (k : K3) :
    Calls Tryz.prog 22 #[.pointer (some ⟨gv, 0, none⟩), k3E k] W fun e w' => e = .returned (.bool (a.V k).isSome) ∧ Tw F w0 w' s gv gl gd r (doQ a ⟨2, k, 0, 0⟩) b (N + 1) ∧ ∀ k, F k → w'.heap[k]? = W.heap[k]? := by
  obtain ⟨O, h1, h2, h3⟩ := h.turn1
  refine (stUnset O s gv gl gd N a k W h1.st h2).mono ?_
  rintro e w' ⟨r1, r2, r3⟩
  exact ⟨r1, Tw.ans (x := ⟨2, k, 0, 0⟩) h3 h1 (fun e => absurd (show (2 : Int) = 5 from e) (by decide)) (fun e => absurd (show (2 : Int) = 3 from e) (by decide)) r2 r3⟩
theorem Tw.push (h : Tw F w0 W s gv gl gd r a b N) (k : K3) (v : Int) (ao : Option Addr) (cp : Nat) (hr : Rd W ao 1 cp [v]) (hl : (a.L k).length < 100) :
    Calls Tryz.prog 23 #[.pointer (some ⟨gl, 0, none⟩), k3E k, .slice ao 1 cp] W fun e w' => e = .returned (.int .i64 0) ∧ Tw F w0 w' s gv gl gd r (doQ a ⟨3, k, 0, v⟩) b (N + 1) ∧ ∀ k, F k → w'.heap[k]? = W.heap[k]? := by
  obtain ⟨O, h1, h2, h3⟩ := h.turn1
  refine (stPush O s gv gl gd N a k ao 1 cp [v] W h1.st h2 hr (by omega)).mono ?_
  rintro e w' ⟨r1, r2, r3⟩
  exact ⟨r1, Tw.ans (x := ⟨3, k, 0, v⟩) h3 h1 (fun e => absurd (show (3 : Int) = 5 from e) (by decide)) (fun _ => hl) r2 r3⟩
theorem Tw.clear (h : Tw F w0 W s gv gl gd r a b N) (k : K3) :
    Calls Tryz.prog 24 #[.pointer (some ⟨gl, 0, none⟩), k3E k] W fun e w' => e = .returned (.int .i64 (a.L k).length) ∧ Tw F w0 w' s gv gl gd r (doQ a ⟨4, k, 0, 0⟩) b (N + 1) ∧ ∀ k, F k → w'.heap[k]? = W.heap[k]? := by
  obtain ⟨O, h1, h2, h3⟩ := h.turn1
  refine (stClear O s gv gl gd N a k W h1.st h2).mono ?_
  rintro e w' ⟨r1, r2, r3⟩
  exact ⟨r1, Tw.ans (x := ⟨4, k, 0, 0⟩) h3 h1 (fun e => absurd (show (4 : Int) = 5 from e) (by decide)) (fun e => absurd (show (4 : Int) = 3 from e) (by decide)) r2 r3⟩
theorem Tw.put (h : Tw F w0 W s gv gl gd r a b N) (k : K3) (f v : Int) (h0 : 0 ≤ f) (h8 : f < 8) :
    Calls Tryz.prog 10 #[.pointer (some ⟨gd, 0, none⟩), k3E k, .int .i64 f, .int .i64 v] W fun e w' => e = .returned (.int .i64 0) ∧ Tw F w0 w' s gv gl gd r (doQ a ⟨5, k, f, v⟩) b (N + 1) ∧ ∀ k, F k → w'.heap[k]? = W.heap[k]? := by
  obtain ⟨O, h1, h2, h3⟩ := h.turn1
  refine (stPut putOK O s gv gl gd N a k f v W h1.st h2 (h1.ok k).1 (h1.dl k) h0 h8).mono ?_
  rintro e w' ⟨r1, r2, r3⟩
  exact ⟨r1, Tw.ans (x := ⟨5, k, f, v⟩) h3 h1 (fun _ => ⟨h0, h8⟩) (fun e => absurd (show (5 : Int) = 3 from e) (by decide)) r2 r3⟩
theorem Tw.cut (h : Tw F w0 W s gv gl gd r a b N) (k : K3) (f : Int) :
    Calls Tryz.prog 11 #[.pointer (some ⟨gd, 0, none⟩), k3E k, .int .i64 f] W fun e w' => e = .returned (.bool (hasT (a.D k) f)) ∧ Tw F w0 w' s gv gl gd r (doQ a ⟨6, k, f, 0⟩) b (N + 1) ∧ ∀ k, F k → w'.heap[k]? = W.heap[k]? := by
  obtain ⟨O, h1, h2, h3⟩ := h.turn1
  refine (stCut cutOK O s gv gl gd N a k f W h1.st h2 (h1.ok k).1 (h1.dl k)).mono ?_
  rintro e w' ⟨r1, r2, r3⟩
  exact ⟨r1, Tw.ans (x := ⟨6, k, f, 0⟩) h3 h1 (fun e => absurd (show (6 : Int) = 5 from e) (by decide)) (fun e => absurd (show (6 : Int) = 3 from e) (by decide)) r2 r3⟩
/-- Where the program's state has its parts. -/
theorem Tw.parts (h : Tw F w0 W s gv gl gd r a b N) : W.cell? ⟨s, 0, none⟩ = some (.pointer (some ⟨gv, 0, none⟩)) ∧ W.cell? ⟨s, 1, none⟩ = some (.pointer (some ⟨gl, 0, none⟩)) ∧ W.cell? ⟨s, 2, none⟩ = some (.pointer (some ⟨gd, 0, none⟩)) := by
  obtain ⟨O, h1, _⟩ := h.turn1
  exact h1.cells
/-- One change that may be, and that there is room for. -/
theorem d_one {a : Ab} {x : Mq} (hx : mayB x.m = true) (hl : (a.L x.k).length < 100) : dErr a [x] = 0 ∧ dQ a [x] = doQ a x := by
  have h1 : (([x] : List Mq).map Mq.m).all mayB = true := by simp [hx]
  have h2 : roomB a.L (fun _ => none) [x] = true := by
    have hn : ¬ (x.c = 3 ∧ 100 ≤ curL a.L (fun _ => none) x.k) := fun e => by
      have h3 := e.2
      unfold curL at h3
      simp at h3
      omega
    rw [roomB, if_neg hn]
    rfl
  exact d_ok h1 h2
end
end Go.Proofs.YtiofkcmdgijjoaaGreat
