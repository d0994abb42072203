/- Three states: the program's and the document's, which go side by side, and another one of the program's. -/
import Derived.Test.YtiofkcmdgijjoaaGreatTwP
import Derived.Test.YtiofkcmdgijjoaaGreatLdL
namespace Go.Proofs.YtiofkcmdgijjoaaGreat
open Go.RowKit Go.MapKept Go.ChangeMaps
section
variable {F : Nat → Prop} {w0 W W' : World} {s gv gl gd r N : Nat} {a b : Ab}
/-- The program's Do of changes in a row of the law's own. -/
theorem Tw.do1f (h : Tw F w0 W s gv gl gd r a b N) (pa : Option Addr) (n cc : Nat) (xs : List Mq) (hm : Ms W pa n (xs.map Mq.m)) (hn : n ≤ 100000) (hp : ∀ b o, pa = some ⟨b, o, none⟩ → F b) :
    Calls Tryz.prog 18 #[.pointer (some ⟨s, 0, none⟩), .slice pa n cc] W fun e w' => e = .returned (.int .i64 (dErr a xs)) ∧ Tw F w0 w' s gv gl gd r (dQ a xs) b (N + n) ∧ Tch (fun k => ¬ F k) W w' := by
  obtain ⟨O1, O2, h1, h2, h3, h4, h5, h6⟩ := h.own
  have hz := h.bel.size
  have hw : Sg W (fun k => O1 k ∨ W.heap.size ≤ k) s gv gl gd a N := h1.wide (fun k hk _ => Or.inl hk)
  refine (hw.doAny (fun k hk => Or.inr hk) pa n cc xs hm hn (fun hpos j o e h7 => ?_)).mono ?_
  · have hF := hp j o e
    rcases h7 with h7 | h7
    · exact (h6 j hF).2.1 h7
    · have := (h6 j hF).1; omega
  rintro e w' ⟨r1, r2, r3⟩
  have hs := r3.size
  refine ⟨r1, ⟨⟨fun k => (O1 k ∨ W.heap.size ≤ k) ∧ k < w'.heap.size, O2, r2.wide (fun k hk hl => ⟨hk, hl⟩), h2.tch r3 (fun k k1 k2 k3 => ?_), fun k _ k1 k2 => ?_, fun k k1 => ⟨k1.2, ?_⟩, fun k k1 => ⟨by have := (h5 k k1).1; omega, (h5 k k1).2⟩, fun k k1 => ⟨by have := (h6 k k1).1; omega, fun k2 => ?_, (h6 k k1).2.2⟩⟩, h.bel.trans (r3.below (fun k hk k1 => ?_) hz)⟩, r3.mono (fun k k1 k2 k3 => ?_)⟩
  · rcases k3 with k3 | k3
    · exact h3 k k2 k3 k1
    · omega
  · rcases k1.1 with k3 | k3
    · exact h3 k (h4 k k3).1 k3 k2
    · have := (h5 k k2).1; omega
  · rcases k1.1 with k3 | k3
    · exact (h4 k k3).2
    · omega
  · rcases k2.1 with k3 | k3
    · exact (h6 k k1).2.1 k3
    · have := (h6 k k1).1; omega
  · rcases k1 with k3 | k3
    · have := (h4 k k3).2; omega
    · omega
  · rcases k2 with k2 | k2
    · exact (h6 k k3).2.1 k2
    · omega
/-- The document's Do of changes wherever they lie. -/
theorem Tw.do2f (h : Tw F w0 W s gv gl gd r a b N) (pa : Option Addr) (n cc : Nat) (xs : List Mq) (hm : Ms W pa n (xs.map Mq.m)) (hn : n ≤ 100000) :
    Calls Tryz.prog 19 #[.pointer (some ⟨r, 0, none⟩), .slice pa n cc] W fun e w' => e = .returned (.int .i64 (dErr b xs)) ∧ Tw F w0 w' s gv gl gd r a (dQ b xs) N ∧ Tch (fun k => ¬ F k) W w' := by
  obtain ⟨O, h1, h2, h3⟩ := h.turn2
  have hr : ¬ F r := by
    obtain ⟨O1, O2, _, g2, _, _, _, g6⟩ := h.own
    exact fun e => (g6 r e).2.2 g2.own
  refine (refDo h1 h2 pa n cc xs hm hn).mono ?_
  rintro e w' ⟨r1, r2, r3⟩
  exact ⟨r1, (h3 w' _ r2 r3).1, r3.mono (fun k _ e => by rw [e]; exact hr)⟩
/-- Blocks of the law's own turn, more are made. -/
theorem Tw.turnG {S F' : Nat → Prop} (h : Tw F w0 W s gv gl gd r a b N) (ht : Tch S W W') (hS : ∀ k, k < W.heap.size → S k → F k ∧ w0.heap.size ≤ k) (hF : ∀ k, F' k → F k ∨ (W.heap.size ≤ k ∧ k < W'.heap.size)) : Tw F' w0 W' s gv gl gd r a b N := by
  obtain ⟨O1, O2, h1, h2, h3, h4, h5, h6⟩ := h.own
  have hs := ht.size
  have hz := h.bel.size
  refine ⟨⟨O1, O2, h1.tch ht (fun k k1 k2 k3 => (h6 k (hS k k2 k3).1).2.1 k1), h2.tch ht (fun k k1 k2 k3 => (h6 k (hS k k2 k3).1).2.2 k1), fun k _ k1 => h3 k (h4 k k1).1 k1, fun k k1 => ⟨by have := (h4 k k1).1; omega, (h4 k k1).2⟩, fun k k1 => ⟨by have := (h5 k k1).1; omega, (h5 k k1).2⟩, fun k k1 => ?_⟩, h.bel.trans (ht.below (fun k hk k1 => by have := (hS k (by omega) k1).2; omega) hz)⟩
  rcases hF k k1 with e | e
  · exact ⟨by have := (h6 k e).1; omega, (h6 k e).2⟩
  · exact ⟨e.2, fun k2 => by have := (h4 k k2).1; omega, fun k2 => by have := (h5 k k2).1; omega⟩
end
/-- The three. -/
structure Th (u W : World) (s v1 l1 d1 r : Nat) (a : Ab) (N t v2 l2 d2 : Nat) (b : Ab) (M : Nat) : Prop where
  own : ∃ F : Nat → Prop, Tw F u W s v1 l1 d1 r a a N ∧ Sg W F t v2 l2 d2 b M ∧ ∀ k, F k → u.heap.size ≤ k ∧ k < W.heap.size
section
variable {u W W' : World} {s v1 l1 d1 r N t v2 l2 d2 M : Nat} {a b : Ab}
theorem Th.later (h : Th u W s v1 l1 d1 r a N t v2 l2 d2 b M) (hb : Below W.heap.size W W') : Th u W' s v1 l1 d1 r a N t v2 l2 d2 b M := by
  obtain ⟨F, h1, h2, h3⟩ := h.own
  have := hb.size
  exact ⟨F, h1.later hb, h2.later hb, fun k hk => ⟨(h3 k hk).1, by have := (h3 k hk).2; omega⟩⟩
theorem Th.bel (h : Th u W s v1 l1 d1 r a N t v2 l2 d2 b M) : Below u.heap.size u W := by
  obtain ⟨F, h1, _⟩ := h.own
  exact h1.bel
/-- The two are told a change. -/
theorem Th.two (h : Th u W s v1 l1 d1 r a N t v2 l2 d2 b M) (x : Mq) (pa : Option Addr) (c : Nat) (hm : Ms u pa 1 [x.m]) :
    Calls Tryz.prog 18 #[.pointer (some ⟨s, 0, none⟩), .slice (some ⟨W.heap.size, 0, none⟩) 1 1] (W.alloc (mtObj x.m)).drew fun e w1 => e = .returned (.int .i64 (dErr a [x])) ∧ Below u.heap.size u w1 ∧
      Hid (Calls Tryz.prog 19 #[.pointer (some ⟨r, 0, none⟩), .slice pa 1 c] w1 fun e w2 => e = .returned (.int .i64 (dErr a [x])) ∧ Below u.heap.size u w2 ∧ Hid (Th u w2 s v1 l1 d1 r (dQ a [x]) (N + 1) t v2 l2 d2 b M)) := by
  obtain ⟨F, h1, h2, h3⟩ := h.own
  have hb : Below W.heap.size W (W.alloc (mtObj x.m)).drew := (below_alloc W (mtObj x.m) W.heap.size (Nat.le_refl _)).drew
  have hsz : (W.alloc (mtObj x.m)).drew.heap.size = W.heap.size + 1 := by show (W.alloc (mtObj x.m)).heap.size = _; simp
  have g1 : Tw (fun k => F k ∨ k = W.heap.size) u (W.alloc (mtObj x.m)).drew s v1 l1 d1 r a a N := h1.add hb (fun k hk => by
    rcases hk with e | e
    · exact Or.inl e
    · exact Or.inr ⟨by omega, by omega⟩)
  have hm1 : Ms (W.alloc (mtObj x.m)).drew (some ⟨W.heap.size, 0, none⟩) 1 ([x].map Mq.m) := Ms.one W x.m
  refine (g1.do1f _ 1 1 [x] hm1 (by omega) (fun b o e => by cases e; exact Or.inr rfl)).mono ?_
  rintro e w1 ⟨r1, r2, r3⟩
  refine ⟨r1, r2.bel, ?_⟩
  have hs1 := r3.size
  refine Calls.mono (r2.do2f pa 1 c [x] (hm.later r2.bel (Nat.le_refl _)) (by omega)) ?_
  rintro e w2 ⟨q1, q2, q3⟩
  have hs2 := q3.size
  refine ⟨q1, q2.bel, F, q2.drop (fun k hk => Or.inl hk), ((h2.later hb).tch r3 (fun k k1 _ k3 => k3 (Or.inl k1))).tch q3 (fun k k1 _ k3 => k3 (Or.inl k1)), fun k hk => ⟨(h3 k hk).1, by have := (h3 k hk).2; omega⟩⟩
/-- The other one is told a change. -/
theorem Th.tdo (h : Th u W s v1 l1 d1 r a N t v2 l2 d2 b M) (x : Mq) :
    Calls Tryz.prog 18 #[.pointer (some ⟨t, 0, none⟩), .slice (some ⟨W.heap.size, 0, none⟩) 1 1] (W.alloc (mtObj x.m)) fun e w' => (∃ z, e = .returned (.int .i64 z)) ∧ Hid (Th u w' s v1 l1 d1 r a N t v2 l2 d2 (dQ b [x]) (M + 1)) := by
  obtain ⟨F, h1, h2, h3⟩ := h.own
  have hb := below_alloc W (mtObj x.m) W.heap.size (Nat.le_refl _)
  have hsz : (W.alloc (mtObj x.m)).heap.size = W.heap.size + 1 := by simp
  have hz := h1.bel.size
  have hw : Sg (W.alloc (mtObj x.m)) (fun k => F k ∨ (W.alloc (mtObj x.m)).heap.size ≤ k) t v2 l2 d2 b M := (h2.later hb).wide (fun k hk _ => Or.inl hk)
  refine (hw.doAny (fun k hk => Or.inr hk) _ 1 1 [x] (Ms.one W x.m) (by omega) (fun _ j o e h7 => ?_)).mono ?_
  · cases e
    rcases h7 with h7 | h7
    · have := (h3 _ h7).2; omega
    · omega
  rintro e w' ⟨r1, r2, r3⟩
  have hs := r3.size
  refine ⟨⟨_, r1⟩, fun k => (F k ∨ (W.alloc (mtObj x.m)).heap.size ≤ k) ∧ k < w'.heap.size, (h1.later hb).turnG r3 (fun k k1 k2 => ?_) (fun k k1 => ?_), r2.wide (fun k hk hl => ⟨hk, hl⟩), fun k hk => ⟨?_, hk.2⟩⟩
  · rcases k2 with k2 | k2
    · exact ⟨k2, (h3 k k2).1⟩
    · omega
  · rcases k1.1 with k2 | k2
    · exact Or.inl k2
    · exact Or.inr ⟨k2, k1.2⟩
  · rcases hk.1 with k2 | k2
    · exact (h3 k k2).1
    · omega
/-- The first one's cells, and what Load makes of them. -/
theorem Th.laid (h : Th u W s v1 l1 d1 r a N t v2 l2 d2 b M) (hN : N ≤ 300) (hM : M ≤ 300) :
    Calls Tryz.prog 26 #[.pointer (some ⟨s, 0, none⟩)] W fun e w1 => ∃ v, e = .returned v ∧ Hid ((∃ ks, RiseK ks ∧ RdC w1 v (ks.map a.at) ∧ ks.length ≤ 1000) ∧ Below u.heap.size u w1 ∧
      ∀ W2, Below w1.heap.size w1 W2 → Calls Tryz.prog 28 #[.pointer (some ⟨t, 0, none⟩), v] W2 fun e w3 => e = .returned (.int .i64 0) ∧ Hid (Th u w3 s v1 l1 d1 r a N t v2 l2 d2 a N)) := by
  obtain ⟨F, h1, h2, h3⟩ := h.own
  obtain ⟨O1, O2, g1, g2, g3, g4, g5, g6⟩ := h1.own
  have hz := h1.bel.size
  refine (g1.told (by omega)).mono ?_
  rintro e w1 ⟨v, xs, ks, r1, r2, r3, r4, r5, r6⟩
  have hs1 := r6.size
  refine ⟨v, r1, ⟨ks, r2.1, by rw [← r4]; exact r5.rdC, by omega⟩, h1.bel.trans (r6.mono hz), fun W2 hW2 => ?_⟩
  have hs2 := hW2.size
  have hbW := r6.trans (hW2.mono hs1)
  have hkb : ∀ k ∈ ks, keyB k.g k.n k.i = true := fun k hk => by
    rw [inK_iff]
    refine Classical.byContradiction fun e => ?_
    obtain ⟨e1, e2, e3⟩ := g2.out k e
    rcases (r2.2 k).1 hk with e | e | e
    · exact e e1
    · exact e e2
    · exact e e3
  have hcl : (ks.map fun k => (a.at k).cw).map Cw.cl = ks.map a.at := by
    rw [List.map_map]
    exact List.map_congr_left (fun k _ => Cl.cw_cl _)
  have hy : CsT (ks.map fun k => (a.at k).cw) (ks.map fun k => (a.at k).cw).length := fun i c hi hc => by
    rw [List.getElem?_map] at hc
    obtain ⟨k, hk, rfl⟩ := Option.map_eq_some_iff.1 hc
    have hkm := List.mem_of_getElem? hk
    have hok := g1.ok k
    refine ⟨⟨hkb k hkm, ?_, ?_, g1.ll k, fun j p hj hp => ⟨hok.2 p (List.mem_of_getElem? hp), fun j' q e hq => ?_⟩⟩, fun j q e hq => ?_⟩
    · rcases (r2.2 k).1 hkm with e | e | e
      · exact Or.inl (by
          show (a.V k).isSome = true
          cases hv : a.V k with
          | none => exact absurd hv e
          | some z => rfl)
      · exact Or.inr (Or.inl (List.length_pos_iff.2 e))
      · exact Or.inr (Or.inr (List.length_pos_iff.2 e))
    · show (a.V k).isSome = true ∨ (a.V k).getD 0 = 0
      cases a.V k with
      | none => exact Or.inr rfl
      | some z => exact Or.inl rfl
    · subst e
      exact RiseF.lt hok.1 (Nat.lt_succ_self _) hq hp
    · subst e
      rw [List.getElem?_map] at hq
      obtain ⟨k', hk', rfl⟩ := Option.map_eq_some_iff.1 hq
      obtain ⟨i1, rfl⟩ := List.getElem?_eq_some_iff.1 hk
      obtain ⟨i2, rfl⟩ := List.getElem?_eq_some_iff.1 hk'
      exact List.pairwise_iff_getElem.1 r2.1 j (j + 1) i2 i1 (Nat.lt_succ_self _)
  have hX2 : OwnR W2 W.heap.size v xs := r5.later hW2
  have hRW : RdW W2 v (ks.map fun k => (a.at k).cw) := by
    have := hX2.rdC.rdW
    rw [r4, List.map_map] at this
    exact this
  have hF2 : Sg W2 F t v2 l2 d2 b M := h2.later hbW
  have hAp : ∀ k, W.heap.size ≤ k → k < w1.heap.size → ¬ (F k ∨ W2.heap.size ≤ k) := fun k e1 e2 e3 => by
    rcases e3 with e3 | e3
    · have := (h3 k e3).2; omega
    · omega
  have hA : Apart W2 (fun k => F k ∨ W2.heap.size ≤ k) v xs := ⟨fun k hk => hAp k (World.ownsRow.lt r5.row k hk).1 (World.ownsRow.lt r5.row k hk).2, fun x hx k hk => hAp k (World.ownsRow.lt (r5.all x hx).la k hk).1 (World.ownsRow.lt (r5.all x hx).la k hk).2, fun x hx k hk => hAp k (World.ownsRow.lt (r5.all x hx).da k hk).1 (World.ownsRow.lt (r5.all x hx).da k hk).2⟩
  have hRK : RdK W2 (fun k => F k ∨ W2.heap.size ≤ k) v ((ks.map fun k => (a.at k).cw).map Cw.cl) := by
    rw [hcl, ← r4]
    exact OwnR.rdK hX2 hA
  have hw : Sg W2 (fun k => F k ∨ W2.heap.size ≤ k) t v2 l2 d2 b M := hF2.wide (fun k hk _ => Or.inl hk)
  refine Calls.mono (loadYes v _ W2 hw (fun k hk => Or.inr hk) (by omega) hRW hRK (by rw [List.length_map]; omega) hy) ?_
  rintro e w3 ⟨q1, ⟨M', q2⟩, q3⟩
  have hs3 := q3.size
  have hld := (csT_ld hy).1
  rw [hcl] at hld q2
  obtain ⟨k1, k2, _, _⟩ := hld.all
  have hof : ofC (ks.map a.at) = a := (cells_eq k1 r2).1 k2
  rw [hof] at q2
  refine ⟨q1, fun k => (F k ∨ W2.heap.size ≤ k) ∧ k < w3.heap.size, (h1.later hbW).turnG q3 (fun k e1 e2 => ?_) (fun k e1 => ?_), ?_, fun k hk => ⟨?_, hk.2⟩⟩
  · rcases e2 with e2 | e2
    · exact ⟨e2, (h3 k e2).1⟩
    · omega
  · rcases e1.1 with e2 | e2
    · exact Or.inl e2
    · exact Or.inr ⟨e2, e1.2⟩
  · have hfit : AbS w3 (fun k => F k ∨ W2.heap.size ≤ k) t v2 l2 d2 a N := StaS.fit2 q2 g1.st r2
    exact Sg.wide ⟨hfit, g1.ok, g1.ll⟩ (fun k hk hl => ⟨hk, hl⟩)
  · rcases hk.1 with e2 | e2
    · exact (h3 k e2).1
    · omega
/-- They are one. -/
theorem Th.eq (h : Th u W s v1 l1 d1 r a N t v2 l2 d2 a M) (hN : N ≤ 300) (hM : M ≤ 300) :
    Calls Tryz.prog 32 #[.pointer (some ⟨s, 0, none⟩), .pointer (some ⟨t, 0, none⟩)] W fun e w' => e = .returned (.bool true) ∧ Below W.heap.size W w' := by
  obtain ⟨F, h1, h2, h3⟩ := h.own
  obtain ⟨O1, O2, g1, _⟩ := h1.own
  exact g1.same h2 (by omega) (by omega)
/-- The other one's cells, and the document's. -/
theorem Th.both (h : Th u W s v1 l1 d1 r a N t v2 l2 d2 a M) (hM : M ≤ 300) :
    Calls Tryz.prog 26 #[.pointer (some ⟨t, 0, none⟩)] W fun e w1 => ∃ v, e = .returned v ∧ Hid (Calls Tryz.prog 27 #[.pointer (some ⟨r, 0, none⟩)] w1 fun e w2 => ∃ v', e = .returned v' ∧ Hid (Calls Tryz.prog 25 #[v, v'] w2 fun e w3 => e = .returned (.bool true) ∧ Hid (Below u.heap.size u w3))) := by
  obtain ⟨F, h1, h2, h3⟩ := h.own
  refine (h2.told (by omega)).mono ?_
  rintro e w1 ⟨v, xs, ks, r1, r2, r3, r4, r5, r6⟩
  refine ⟨v, r1, ?_⟩
  have hA : CellsAt w1 v a := ⟨ks, r2, by rw [← r4]; exact r5.rdC, by omega⟩
  refine Calls.mono ((h1.later r6).cells2) ?_
  rintro e w2 ⟨v', q1, q2, q3, q4⟩
  refine ⟨v', q1, ?_⟩
  refine Calls.mono (q3.same (hA.later q4) q2) ?_
  rintro e w3 ⟨t1, t2, _⟩
  exact ⟨t1, t2.bel⟩
end
/-- New ones. -/
theorem Th.new {w w0 : World} (hb : Below w.heap.size w w0) : Th w ((newSt (newSt w0)).alloc (.cells stZ 97)) (w0.heap.size + 1 + 1 + 1) w0.heap.size (w0.heap.size + 1) (w0.heap.size + 1 + 1) (newSt (newSt w0)).heap.size ab0 0 ((newSt w0).heap.size + 1 + 1 + 1) (newSt w0).heap.size ((newSt w0).heap.size + 1) ((newSt w0).heap.size + 1 + 1) ab0 0 := by
  have hb1 := newSt_below w0
  have hb2 := newSt_below (newSt w0)
  have hb3 := below_alloc (newSt (newSt w0)) (.cells stZ 97) (newSt (newSt w0)).heap.size (Nat.le_refl _)
  have z0 := hb.size
  have z1 := hb1.size
  have z2 := hb2.size
  have z3 := hb3.size
  have s1 : Sg ((newSt (newSt w0)).alloc (.cells stZ 97)) (fun k => w0.heap.size ≤ k ∧ k < (newSt w0).heap.size) _ _ _ _ ab0 0 := (((Sg.new w0).wide (fun k h1 h2 => ⟨h1, h2⟩)).later hb2).later hb3
  have s2 : Sg ((newSt (newSt w0)).alloc (.cells stZ 97)) (fun k => (newSt w0).heap.size ≤ k ∧ k < (newSt (newSt w0)).heap.size) _ _ _ _ ab0 0 := ((Sg.new (newSt w0)).wide (fun k h1 h2 => ⟨h1, h2⟩)).later hb3
  exact ⟨fun k => (newSt w0).heap.size ≤ k ∧ k < (newSt (newSt w0)).heap.size, ⟨⟨fun k => w0.heap.size ≤ k ∧ k < (newSt w0).heap.size, fun k => (newSt (newSt w0)).heap.size ≤ k ∧ k < ((newSt (newSt w0)).alloc (.cells stZ 97)).heap.size, s1, (Rf.zero (newSt (newSt w0))).wide (fun k h1 h2 => ⟨h1, h2⟩), fun k _ k1 k2 => by have := k1.2; have := k2.1; omega, fun k k1 => ⟨by have := k1.2; omega, by have := k1.1; omega⟩, fun k k1 => ⟨k1.2, by have := k1.1; omega⟩, fun k k1 => ⟨by omega, fun e => by omega, fun e => by omega⟩⟩, hb.trans ((hb1.trans ((hb2.trans (hb3.mono z2)).mono z1)).mono z0)⟩, s2, fun k hk => ⟨by omega, by omega⟩⟩
end Go.Proofs.YtiofkcmdgijjoaaGreat
