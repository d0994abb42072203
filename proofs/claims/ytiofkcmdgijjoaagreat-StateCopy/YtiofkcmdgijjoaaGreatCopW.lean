/- Four states: the program's and the document's, and a copy of each; told cells that the law writes into. -/
import Derived.Test.YtiofkcmdgijjoaaGreatRefE
import Derived.Test.YtiofkcmdgijjoaaGreatRefU
namespace Go.Proofs.YtiofkcmdgijjoaaGreat
open Go.RowKit Go.MapKept Go.ChangeMaps

/-- A state s and the document's r hold a; the copies t and y hold b. -/
structure Fo (w0 W : World) (s gv gl gd r : Nat) (a : Ab) (N t tv tl td y : Nat) (b : Ab) (M : Nat) : Prop where
  own : ∃ O1 O2 O3 O4 : Nat → Prop, Sg W O1 s gv gl gd a N ∧ Rf W O2 r a ∧ Sg W O3 t tv tl td b M ∧ Rf W O4 y b ∧ (∀ k, O3 k → k < W.heap.size ∧ ¬ O1 k ∧ ¬ O2 k ∧ ¬ O4 k) ∧ (∀ k, O4 k → k < W.heap.size) ∧ (∀ k, O1 k ∨ O2 k → k < W.heap.size ∧ k ≠ y) ∧ (∀ k, O3 k → w0.heap.size ≤ k)
  y : w0.heap.size ≤ y
  bel : Below w0.heap.size w0 W
section
variable {w0 W W' : World} {s gv gl gd r N t tv tl td y M : Nat} {a b : Ab}
theorem Fo.later (h : Fo w0 W s gv gl gd r a N t tv tl td y b M) (hb : Below W.heap.size W W') : Fo w0 W' s gv gl gd r a N t tv tl td y b M := by
  obtain ⟨O1, O2, O3, O4, h1, h2, h3, h4, h5, h6, h7, h8⟩ := h.own
  have := hb.size
  exact ⟨⟨O1, O2, O3, O4, h1.later hb, h2.later hb, h3.later hb, h4.later hb, fun k hk => ⟨by have := (h5 k hk).1; omega, (h5 k hk).2⟩, fun k hk => by have := h6 k hk; omega, fun k hk => ⟨by have := (h7 k hk).1; omega, (h7 k hk).2⟩, h8⟩, h.y, h.bel.trans (hb.mono h.bel.size)⟩
/-- The program's copy is told changes. -/
theorem Fo.do1 (h : Fo w0 W s gv gl gd r a N t tv tl td y b M) {u0 : World} (hu : Below u0.heap.size u0 w0) (pa : Option Addr) (n cc : Nat) (xs : List Mq) (hm0 : Ms u0 pa n (xs.map Mq.m)) (hn : n ≤ 100000) :
    Calls Tryz.prog 18 #[.pointer (some ⟨t, 0, none⟩), .slice pa n cc] W fun e w' => (∃ x, e = .returned (.int .i64 x)) ∧ ∃ O1 O2 O3 O4 : Nat → Prop, Sg w' O1 s gv gl gd a N ∧ Rf w' O2 r a ∧ Sg w' O3 t tv tl td (dQ b xs) (M + n) ∧ Rf w' O4 y b ∧ (∀ k, O3 k → k < w'.heap.size ∧ ¬ O1 k ∧ ¬ O2 k ∧ ¬ O4 k) ∧ (∀ k, O4 k → k < w'.heap.size) ∧ (∀ k, O1 k ∨ O2 k → k < w'.heap.size ∧ k ≠ y) ∧ (∀ k, O3 k → w0.heap.size ≤ k) ∧ Below w0.heap.size w0 w' := by
  obtain ⟨O1, O2, O3, O4, h1, h2, h3, h4, h5, h6, h7, h8⟩ := h.own
  have hz := h.bel.size
  have hzu := hu.size
  have hw : Sg W (fun k => O3 k ∨ W.heap.size ≤ k) t tv tl td b M := h3.wide (fun k hk _ => Or.inl hk)
  have hm := (hm0.later hu (Nat.le_refl _)).later h.bel (Nat.le_refl _)
  refine (hw.doAny (fun k hk => Or.inr hk) pa n cc xs hm hn (fun hpos j o e h6 => ?_)).mono ?_
  · have : j < u0.heap.size := by
      obtain ⟨b, o', e', hc⟩ := hm0.2 hpos
      rw [e] at e'
      obtain ⟨rfl, rfl⟩ : j = b ∧ o = o' := by simpa using e'
      obtain ⟨m, hm1⟩ : ∃ m, (xs.map Mq.m)[0]? = some m := ⟨_, List.getElem?_eq_getElem (by rw [hm0.1]; exact hpos)⟩
      exact World.block_lt_of_cell? u0 _ (hc 0 m hm1).1
    rcases h6 with h6 | h6
    · have := h8 j h6; omega
    · omega
  rintro e w' ⟨r1, r2, r3⟩
  have hs := r3.size
  have h4lt := h4.lt
  refine ⟨⟨_, r1⟩, O1, O2, fun k => (O3 k ∨ W.heap.size ≤ k) ∧ k < w'.heap.size, O4, h1.tch r3 (fun k k1 k2 k3 => ?_), h2.tch r3 (fun k k1 k2 k3 => ?_), r2.wide (fun k hk hl => ⟨hk, hl⟩), h4.tch r3 (fun k k1 k2 k3 => ?_), fun k k1 => ⟨k1.2, fun k2 => ?_, fun k2 => ?_, fun k2 => ?_⟩, fun k hk => by have := h6 k hk; omega, fun k hk => ⟨by have := (h7 k hk).1; omega, (h7 k hk).2⟩, fun k k1 => ?_, h.bel.trans (r3.below (fun k hk k1 => ?_) hz)⟩
  · rcases k3 with k3 | k3
    · exact (h5 k k3).2.1 k1
    · omega
  · rcases k3 with k3 | k3
    · exact (h5 k k3).2.2.1 k1
    · omega
  · rcases k3 with k3 | k3
    · exact (h5 k k3).2.2.2 k1
    · omega
  · rcases k1.1 with k3 | k3
    · exact (h5 k k3).2.1 k2
    · have := (h7 k (Or.inl k2)).1; omega
  · rcases k1.1 with k3 | k3
    · exact (h5 k k3).2.2.1 k2
    · have := (h7 k (Or.inr k2)).1; omega
  · rcases k1.1 with k3 | k3
    · exact (h5 k k3).2.2.2 k2
    · have := h6 k k2; omega
  · rcases k1.1 with k3 | k3
    · exact h8 k k3
    · omega
  · rcases k1 with k3 | k3
    · have := h8 k k3; omega
    · omega
end
/-- The document's copy is told them too. -/
theorem Fo.do2 {w0 W : World} {s gv gl gd r N t tv tl td y M : Nat} {a b b' : Ab} {O1 O2 O3 O4 : Nat → Prop} (h1 : Sg W O1 s gv gl gd a N) (h2 : Rf W O2 r a) (h3 : Sg W O3 t tv tl td b' M) (h4 : Rf W O4 y b) (h5 : ∀ k, O3 k → k < W.heap.size ∧ ¬ O1 k ∧ ¬ O2 k ∧ ¬ O4 k) (_h6 : ∀ k, O4 k → k < W.heap.size) (h7 : ∀ k, O1 k ∨ O2 k → k < W.heap.size ∧ k ≠ y) (h8 : ∀ k, O3 k → w0.heap.size ≤ k) (hy : w0.heap.size ≤ y) (hbel : Below w0.heap.size w0 W) {u0 : World} (hu : Below u0.heap.size u0 w0) (pa : Option Addr) (n cc : Nat) (xs : List Mq) (hm0 : Ms u0 pa n (xs.map Mq.m)) (hn : n ≤ 100000) (hb' : b' = dQ b xs) :
    Calls Tryz.prog 19 #[.pointer (some ⟨y, 0, none⟩), .slice pa n cc] W fun e w' => (∃ x, e = .returned (.int .i64 x)) ∧ Fo w0 w' s gv gl gd r a N t tv tl td y (dQ b xs) M := by
  have hz := hbel.size
  have hm := (hm0.later hu (Nat.le_refl _)).later hbel (Nat.le_refl _)
  have hw : Rf W (fun k => O4 k ∨ W.heap.size ≤ k) y b := h4.wide (fun k hk _ => Or.inl hk)
  have h4o := h4.own
  refine (refDo hw (fun k hk => Or.inr hk) pa n cc xs hm hn).mono ?_
  rintro e w' ⟨r1, r2, r3⟩
  have hs := r3.size
  refine ⟨⟨_, r1⟩, ⟨O1, O2, O3, fun k => (O4 k ∨ W.heap.size ≤ k) ∧ k < w'.heap.size, h1.tch r3 (fun k k1 k2 k3 => (h7 k (Or.inl k1)).2 k3), h2.tch r3 (fun k k1 k2 k3 => (h7 k (Or.inr k1)).2 k3), ?_, r2.wide (fun k hk hl => ⟨hk, hl⟩), fun k hk => ⟨by have := (h5 k hk).1; omega, (h5 k hk).2.1, (h5 k hk).2.2.1, fun k2 => ?_⟩, fun k hk => hk.2, fun k hk => ⟨by have := (h7 k hk).1; omega, (h7 k hk).2⟩, h8⟩, hy, hbel.trans (r3.below (fun k hk k1 => by subst k1; omega) hz)⟩
  · rw [← hb']
    exact h3.tch r3 (fun k k1 k2 k3 => (h5 k k1).2.2.2 (by rw [k3]; exact h4o))
  · rcases k2.1 with k3 | k3
    · exact (h5 k hk).2.2.2 k3
    · have := (h5 k hk).1; omega
/-- Copied. -/
theorem Fo.new {w0 W W1 W2 : World} {F : Nat → Prop} {s gv gl gd r N t tv tl td : Nat} {a : Ab} (h : Tw F w0 W s gv gl gd r a a N) (hb1 : Below W.heap.size W W1) (hc : Sg W1 (fun k => W.heap.size ≤ k) t tv tl td a N) (hb2 : Below W1.heap.size W1 W2) {O2 : Nat → Prop} (hr : Rf W1 O2 r a) (hO : ∀ k, O2 k → k < W.heap.size) (hv : Rf W2 (fun k => (O2 k ∧ k ≠ r) ∨ W1.heap.size ≤ k) W1.heap.size a) : Fo w0 W2 s gv gl gd r a N t tv tl td W1.heap.size a N := by
  obtain ⟨O1, _, h1, _, _, h4, _, _⟩ := h.own
  have z0 := h.bel.size
  have z1 := hb1.size
  have z2 := hb2.size
  have hlt := hv.lt
  exact ⟨⟨O1, O2, fun k => W.heap.size ≤ k ∧ k < W1.heap.size, fun k => ((O2 k ∧ k ≠ r) ∨ W1.heap.size ≤ k) ∧ k < W2.heap.size, (h1.later hb1).later hb2, hr.later hb2, (hc.wide (fun k h1 h2 => ⟨h1, h2⟩)).later hb2, hv.wide (fun k h1 h2 => ⟨h1, h2⟩), fun k hk => ⟨by omega, fun e => by have := (h4 k e).1; omega, fun e => by have := hO k e; omega, fun e => by
    rcases e.1 with e | e
    · have := hO k e.1; omega
    · omega⟩, fun k hk => hk.2, fun k hk => by
    rcases hk with e | e
    · have := (h4 k e).1; omega
    · have := hO k e; omega, fun k hk => by omega⟩, by omega, h.bel.trans ((hb1.trans (hb2.mono z1)).mono z0)⟩

/-- Numbers, one behind the other, that the law may write into. -/
def NumI (B : Nat) (T : TypeId) (w : World) (p : Option Addr) (m : Nat) : Prop := 0 < m → ∃ g cur, p = some ⟨g, 0, none⟩ ∧ B ≤ g ∧ w.heap[g]? = some (.cells cur T (0, 0)) ∧ ∀ j, j < m → ∃ x, cur[j]? = some (.int .i64 x)
theorem NumI.set {B : Nat} {T T' : TypeId} {w : World} {p : Option Addr} {m g j : Nat} {cur : Array Value} (h : NumI B T w p m) (hg : w.heap[g]? = some (.cells cur T' (0, 0))) (x : Int) : NumI B T (w.setCell ⟨g, j, none⟩ (.int .i64 x)) p m := fun hm => by
  obtain ⟨g', cur', e1, e2, e3, e4⟩ := h hm
  obtain ⟨hlt, he⟩ := Array.getElem?_eq_some_iff.1 hg
  by_cases e : g' = g
  · subst e
    rw [hg] at e3
    obtain ⟨rfl, rfl⟩ : cur = cur' ∧ T' = T := by simpa using e3
    refine ⟨g', cur.setIfInBounds j (.int .i64 x), e1, e2, by simp [World.setCell, Array.getElem_modify, hlt, he], fun i hi => ?_⟩
    by_cases ej : i = j
    · subst ej
      obtain ⟨y, hy⟩ := e4 i hi
      exact ⟨x, by rw [Array.getElem?_setIfInBounds_self_of_lt (Array.getElem?_eq_some_iff.1 hy).1]⟩
    · rw [Array.getElem?_setIfInBounds_ne (fun e => ej e.symm)]
      exact e4 i hi
  · refine ⟨g', cur', e1, e2, ?_, e4⟩
    rw [Below.heap_setCell _ _ _ _ (fun e' => e e')]
    exact e3
theorem NumI.later {B : Nat} {T : TypeId} {w w' : World} {p : Option Addr} {m : Nat} (h : NumI B T w p m) (hb : Below w.heap.size w w') : NumI B T w' p m := fun hm => by
  obtain ⟨g, cur, e1, e2, e3, e4⟩ := h hm
  exact ⟨g, cur, e1, e2, boxed_old e3 hb, e4⟩
/-- A told cell: its rows. -/
structure TlC (B : Nat) (w : World) (g j : Nat) (k : K3) (hb : Bool) (v : Int) (lp : Option Addr) (ln lc : Nat) (dp : Option Addr) (dn dc : Nat) : Prop where
  c0 : w.cell? ⟨g, 0 + j * 7, none⟩ = some (.int .i64 k.g)
  c1 : w.cell? ⟨g, 0 + j * 7 + 1, none⟩ = some (.int .i64 k.n)
  c2 : w.cell? ⟨g, 0 + j * 7 + 2, none⟩ = some (.int .i64 k.i)
  c3 : w.cell? ⟨g, 0 + j * 7 + 3, none⟩ = some (.bool hb)
  c4 : w.cell? ⟨g, 0 + j * 7 + 4, none⟩ = some (.int .i64 v)
  c5 : w.cell? ⟨g, 0 + j * 7 + 5, none⟩ = some (.slice lp ln lc)
  c6 : w.cell? ⟨g, 0 + j * 7 + 6, none⟩ = some (.slice dp dn dc)
  l : NumI B 2 w lp ln
  d : NumI B 43 w dp (dn * 2)
  le : ln ≤ lc ∧ dn ≤ dc ∧ lc ≤ 9223372036854775807 ∧ dc ≤ 9223372036854775807
/-- A told row of cells. -/
def Told (B : Nat) (w : World) (v : Value) (n : Nat) : Prop := ∃ p c, v = .slice p n c ∧ n ≤ c ∧ (0 < n → ∃ g cur, p = some ⟨g, 0, none⟩ ∧ w.heap[g]? = some (.cells cur 73 (0, 0)) ∧ ∀ j, j < n → ∃ k hb v lp ln lc dp dn dc, TlC B w g j k hb v lp ln lc dp dn dc)
theorem typesTl : 2 ≠ 73 ∧ 43 ≠ 73 := by decide
theorem Told.set {B : Nat} {T : TypeId} {w : World} {v : Value} {n g j : Nat} {cur : Array Value} (h : Told B w v n) (hg : w.heap[g]? = some (.cells cur T (0, 0))) (hT : T ≠ 73) (x : Int) : Told B (w.setCell ⟨g, j, none⟩ (.int .i64 x)) v n := by
  obtain ⟨p, c, rfl, hn, h2⟩ := h
  refine ⟨p, c, rfl, hn, fun h0 => ?_⟩
  obtain ⟨g', cur', e1, e2, e3⟩ := h2 h0
  have hne : g' ≠ g := fun e => by
    rw [e, hg] at e2
    obtain ⟨_, e5⟩ : cur = cur' ∧ T = 73 := by simpa using e2
    exact hT e5
  have hh : (w.setCell ⟨g, j, none⟩ (.int .i64 x)).heap[g']? = w.heap[g']? := Below.heap_setCell _ _ _ _ (fun e => hne e)
  refine ⟨g', cur', e1, hh.trans e2, fun i hi => ?_⟩
  obtain ⟨k, hb, v, lp, ln, lc, dp, dn, dc, q0, q1, q2, q3, q4, q5, q6, ql, qd, qe⟩ := e3 i hi
  have mv : ∀ {o : Nat} {u : Value}, w.cell? ⟨g', o, none⟩ = some u → (w.setCell ⟨g, j, none⟩ (.int .i64 x)).cell? ⟨g', o, none⟩ = some u := fun {o u} hc => by rw [World.cell?_of_block (a := ⟨g', o, none⟩) hh]; exact hc
  exact ⟨k, hb, v, lp, ln, lc, dp, dn, dc, mv q0, mv q1, mv q2, mv q3, mv q4, mv q5, mv q6, ql.set hg x, qd.set hg x, qe⟩
theorem Told.later {B : Nat} {w w' : World} {v : Value} {n : Nat} (h : Told B w v n) (hb : Below w.heap.size w w') : Told B w' v n := by
  obtain ⟨p, c, rfl, hn, h2⟩ := h
  refine ⟨p, c, rfl, hn, fun h0 => ?_⟩
  obtain ⟨g', cur', e1, e2, e3⟩ := h2 h0
  refine ⟨g', cur', e1, boxed_old e2 hb, fun i hi => ?_⟩
  obtain ⟨k, hb', v, lp, ln, lc, dp, dn, dc, q0, q1, q2, q3, q4, q5, q6, ql, qd, qe⟩ := e3 i hi
  exact ⟨k, hb', v, lp, ln, lc, dp, dn, dc, same_cell hb q0, same_cell hb q1, same_cell hb q2, same_cell hb q3, same_cell hb q4, same_cell hb q5, same_cell hb q6, ql.later hb, qd.later hb, qe⟩
theorem ownI_num {B : Nat} {w : World} {lp : Option Addr} {lc : Nat} {z : List Int} (h : OwnI w B (.slice lp z.length lc) z) : NumI B 2 w lp z.length ∧ z.length ≤ lc ∧ lc ≤ 9223372036854775807 := by
  have hr := h
  rcases h.2 with ⟨e, hn⟩ | ⟨g, cap, cur, e, hB, hh, h1, h9, hs, ht⟩
  · obtain ⟨_, _, rfl⟩ : lp = none ∧ z.length = 0 ∧ lc = 0 := by simpa using e
    refine ⟨fun e => by omega, by omega, by omega⟩
  · obtain ⟨rfl, rfl⟩ : lp = some ⟨g, 0, none⟩ ∧ lc = cap := by simpa using e
    refine ⟨fun _ => ⟨g, cur, rfl, hB, hh, fun j hj => ?_⟩, h1, by simpa [maxLen] using h9⟩
    refine ⟨z[j], ?_⟩
    have := World.ownsRow.cells hr (g := g) rfl j (.int .i64 z[j]) (by rw [flatI, List.getElem?_map, List.getElem?_eq_getElem hj]; rfl)
    rw [add_none, Nat.zero_add] at this
    simpa [World.cell?, hh] using this
theorem ownF_num {B : Nat} {w : World} {lp : Option Addr} {lc : Nat} {z : List (Int × Int)} (h : OwnF w B (.slice lp z.length lc) z) : NumI B 43 w lp (z.length * 2) ∧ z.length ≤ lc ∧ lc ≤ 9223372036854775807 := by
  have hr := h
  rcases h.2 with ⟨e, hn⟩ | ⟨g, cap, cur, e, hB, hh, h1, h9, hs, ht⟩
  · obtain ⟨_, _, rfl⟩ : lp = none ∧ z.length = 0 ∧ lc = 0 := by simpa using e
    refine ⟨fun e => by omega, by omega, by omega⟩
  · obtain ⟨rfl, rfl⟩ : lp = some ⟨g, 0, none⟩ ∧ lc = cap := by simpa using e
    refine ⟨fun _ => ⟨g, cur, rfl, hB, hh, fun j hj => ?_⟩, h1, by simpa [maxLen] using h9⟩
    have hz := flatF_at z (j / 2) z[j / 2] (List.getElem?_eq_getElem (by omega))
    have key : ∀ (i : Nat) (x : Int), (z.flatMap fdC)[i]? = some (Value.int .i64 x) → cur[i]? = some (Value.int .i64 x) := fun i x hx => by
      have := World.ownsRow.cells hr (g := g) rfl i (.int .i64 x) hx
      rw [add_none, Nat.zero_add] at this
      simpa [World.cell?, hh] using this
    rcases Nat.mod_two_eq_zero_or_one j with e2 | e2
    · have e3 : j / 2 * 2 = j := by omega
      rw [e3] at hz
      exact ⟨_, key j _ hz.1⟩
    · have e3 : j / 2 * 2 + 1 = j := by omega
      rw [e3] at hz
      exact ⟨_, key j _ hz.2⟩
theorem OwnR.told {B : Nat} {w : World} {v : Value} {xs : List Cr} (h : OwnR w B v xs) : Told B w v xs.length := by
  have hr := h
  rcases h.row.2 with ⟨e, hn⟩ | ⟨g, cap, cur, rfl, hB, hh, h1, _, hs, ht⟩
  · subst e
    rw [hn]
    exact ⟨none, 0, rfl, Nat.le_refl _, fun e => absurd e (Nat.lt_irrefl _)⟩
  · refine ⟨_, _, rfl, h1, fun _ => ⟨g, cur, rfl, hh, fun j hj => ?_⟩⟩
    obtain ⟨x, hx⟩ : ∃ x, xs[j]? = some x := ⟨_, List.getElem?_eq_getElem hj⟩
    obtain ⟨p0, p1, p2, p3, p4, p5, p6⟩ := hr.at hx
    have hok := hr.all x (List.mem_of_getElem? hx)
    obtain ⟨lp, lc, e1, _, _⟩ := RowI.slice hok.la.row
    obtain ⟨dp, dc, e2, _⟩ := RowF.rd hok.da.row
    have hl := hok.la
    have hd := hok.da
    rw [e1] at p5 hl
    rw [e2] at p6 hd
    exact ⟨x.c.k, _, _, lp, _, lc, dp, _, dc, by rw [Nat.zero_add]; exact p0, by rw [Nat.zero_add]; exact p1, by rw [Nat.zero_add]; exact p2, by rw [Nat.zero_add]; exact p3, by rw [Nat.zero_add]; exact p4, by rw [Nat.zero_add]; exact p5, by rw [Nat.zero_add]; exact p6, (ownI_num hl).1, (ownF_num hd).1, (ownI_num hl).2.1, (ownF_num hd).2.1, (ownI_num hl).2.2, (ownF_num hd).2.2⟩
end Go.Proofs.YtiofkcmdgijjoaaGreat
