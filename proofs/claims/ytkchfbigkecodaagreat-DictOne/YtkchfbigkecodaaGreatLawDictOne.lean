/- The statement DictOne: a field that is put again is the last one put; cut, it is not there; the others stay, for all numbers. -/
import Derived.Test.YtkchfbigkecodaaGreatDctG
import Derived.Test.YtkchfbigkecodaaGreatKeyC
import Derived.Test.YtkchfbigkecodaaGreatKeyF
import Derived.Test.YtkchfbigkecodaaGreatBeg7
import Derived.Test.YtkchfbigkecodaaGreatLawA
import Derived.Deep.LoopGhost
import Derived.Deep.CutBlock
namespace Go.Proofs.YtkchfbigkecodaaGreat.dictOne
open Go.ChangeShapes Go.WideShapes Go.ChangeAt Go.RowKit Go.MapKept Go.ChangeMaps

/-- The law's own tables. -/
def intO (us : List Int) : Obj := .cells (us.map (Value.int .i64)).toArray 69 (0, 0)
def booO (bs : List Bool) : Obj := .cells (bs.map Value.bool).toArray 70 (0, 0)
theorem intO_cell {w : World} {q i : Nat} {us : List Int} {x : Int} (h : w.heap[q]? = some (intO us)) (hi : us[i]? = some x) : w.cell? ⟨q, i, none⟩ = some (.int .i64 x) := by
  simp [World.cell?, h, intO, hi]
theorem booO_cell {w : World} {q i : Nat} {bs : List Bool} {x : Bool} (h : w.heap[q]? = some (booO bs)) (hi : bs[i]? = some x) : w.cell? ⟨q, i, none⟩ = some (.bool x) := by
  simp [World.cell?, h, booO, hi]
theorem intO_set {w : World} {q i : Nat} {us : List Int} (h : w.heap[q]? = some (intO us)) (v : Int) : (w.setCell ⟨q, i, none⟩ (.int .i64 v)).heap[q]? = some (intO (us.set i v)) := by
  obtain ⟨hlt, he⟩ := Array.getElem?_eq_some_iff.1 h
  simp [World.setCell, Array.getElem_modify, hlt, he, intO, List.map_set]
theorem booO_set {w : World} {q i : Nat} {bs : List Bool} (h : w.heap[q]? = some (booO bs)) (v : Bool) : (w.setCell ⟨q, i, none⟩ (.bool v)).heap[q]? = some (booO (bs.set i v)) := by
  obtain ⟨hlt, he⟩ := Array.getElem?_eq_some_iff.1 h
  simp [World.setCell, Array.getElem_modify, hlt, he, booO, List.map_set]
theorem intO_free {w : World} {q i : Nat} {us : List Int} (h : w.heap[q]? = some (intO us)) : w.frozen? ⟨q, i, none⟩ = false := by simp [World.frozen?, h, intO]
theorem booO_free {w : World} {q i : Nat} {bs : List Bool} (h : w.heap[q]? = some (booO bs)) : w.frozen? ⟨q, i, none⟩ = false := by simp [World.frozen?, h, booO]

/-- What the tables say of the fields. -/
structure Tb (z : List (Int × Int)) (us : List Int) (bs : List Bool) : Prop where
  lu : us.length = 8
  lb : bs.length = 8
  at' : ∀ f : Nat, f < 8 → bs[f]? = some (fldZ z (f : Int)).isSome ∧ ∀ v, fldZ z (f : Int) = some v → us[f]? = some v
theorem Tb.put {z : List (Int × Int)} {us : List Int} {bs : List Bool} (h : Tb z us bs) (hz : RiseF z) (i : Nat) (v : Int) : Tb (putZ z (i : Int) v) (us.set i v) (bs.set i true) := by
  refine ⟨by simp [h.lu], by simp [h.lb], fun f hf => ?_⟩
  obtain ⟨h1, h2⟩ := h.at' f hf
  have := h.lu
  have := h.lb
  rw [fld_put _ _ hz]
  by_cases e : f = i
  · subst e
    rw [if_pos rfl, List.getElem?_set_self (by omega), List.getElem?_set_self (by omega)]
    exact ⟨rfl, fun x hx => hx⟩
  · rw [if_neg (by omega), List.getElem?_set_ne (fun e' => e e'.symm), List.getElem?_set_ne (fun e' => e e'.symm)]
    exact ⟨h1, h2⟩
theorem Tb.cut {z : List (Int × Int)} {us : List Int} {bs : List Bool} (h : Tb z us bs) (hz : RiseF z) (i : Nat) : Tb (cutZ z (i : Int)) us (bs.set i false) := by
  refine ⟨h.lu, by simp [h.lb], fun f hf => ?_⟩
  obtain ⟨h1, h2⟩ := h.at' f hf
  have := h.lb
  rw [fld_cut _ hz]
  by_cases e : f = i
  · subst e
    rw [if_pos rfl, List.getElem?_set_self (by omega)]
    exact ⟨rfl, fun x hx => by cases hx⟩
  · rw [if_neg (by omega), List.getElem?_set_ne (fun e' => e e'.symm)]
    exact ⟨h1, h2⟩

/-- One key's fields alone. -/
def fd1 (z : List (Int × Int)) : K3 → List (Int × Int) := updR (fun _ => []) k219 z
theorem fd1_at (z : List (Int × Int)) : fd1 z k219 = z := by simp [fd1, updR]
theorem fd1_upd (z y : List (Int × Int)) : updR (fd1 z) k219 y = fd1 y := by
  funext b
  unfold fd1 updR
  by_cases e : b = k219
  · simp [e]
  · simp [e]
theorem fd1_nil : fd1 [] = fun _ => [] := by
  funext b
  unfold fd1 updR
  split <;> rfl

/-- What is held: the dictionaries, the key's box, the two tables. -/
structure Hd (w W : World) (g q u b : Nat) (z : List (Int × Int)) (us : List Int) (bs : List Bool) (N : Nat) : Prop where
  d : Dh w W g (fun k => k = q ∨ k = u ∨ k = b) (fd1 z) N
  k : W.heap[q]? = some (.cells #[.int .i64 2, .int .i64 1, .int .i64 9] 28)
  hu : W.heap[u]? = some (intO us)
  hb : W.heap[b]? = some (booO bs)
  qw : w.heap.size ≤ q ∧ w.heap.size ≤ u ∧ w.heap.size ≤ b
  ne : q ≠ u ∧ q ≠ b ∧ u ≠ b
section
variable {w W W' : World} {g q u b N : Nat} {z : List (Int × Int)} {us : List Int} {bs : List Bool}
theorem Hd.later (h : Hd w W g q u b z us bs N) (hb : Below W.heap.size W W') : Hd w W' g q u b z us bs N := ⟨h.d.later hb, boxed_old h.k hb, boxed_old h.hu hb, boxed_old h.hb hb, h.qw, h.ne⟩
theorem Hd.rise (h : Hd w W g q u b z us bs N) : OkF z := by have := h.d.ok k219; rwa [fd1_at] at this
theorem Hd.cells (h : Hd w W g q u b z us bs N) : W.cell? ⟨q, 0, none⟩ = some (.int .i64 2) ∧ W.cell? ⟨q, 1, none⟩ = some (.int .i64 1) ∧ W.cell? ⟨q, 2, none⟩ = some (.int .i64 9) := cells_three h.k
theorem Hd.turn {z' : List (Int × Int)} {N' : Nat} (h : Hd w W g q u b z us bs N) (hd : Dh w W' g (fun k => k = q ∨ k = u ∨ k = b) (fd1 z') N') (ht : Tch (fun k => g ≤ k ∧ ¬ (k = q ∨ k = u ∨ k = b)) W W') : Hd w W' g q u b z' us bs N' :=
  ⟨hd, ht.old h.k (fun e => e.2 (Or.inl rfl)), ht.old h.hu (fun e => e.2 (Or.inr (Or.inl rfl))), ht.old h.hb (fun e => e.2 (Or.inr (Or.inr rfl))), h.qw, h.ne⟩
theorem Hd.put (h : Hd w W g q u b z us bs N) (i : Nat) (n : Int) (hi : i < 8) :
    Calls Tryz.prog 28 #[.pointer (some ⟨g, 0, none⟩), .agg #[.int .i64 2, .int .i64 1, .int .i64 9], .int .i64 (i : Int), .int .i64 n] W fun e w' => e = .returned (.int .i64 0) ∧ Hd w w' g q u b (putZ z (i : Int) n) us bs (N + 1) := by
  have := h.d.put k219 (i : Int) n (by omega) (by omega)
  rw [fd1_at, fd1_upd] at this
  refine Calls.mono this ?_
  rintro e w' ⟨r1, r2, r3⟩
  exact ⟨r1, h.turn r2 r3⟩
theorem Hd.cut (h : Hd w W g q u b z us bs N) (i : Nat) :
    Calls Tryz.prog 29 #[.pointer (some ⟨g, 0, none⟩), .agg #[.int .i64 2, .int .i64 1, .int .i64 9], .int .i64 (i : Int)] W fun e w' => e = .returned (.bool (fldZ z (i : Int)).isSome) ∧ Hd w w' g q u b (cutZ z (i : Int)) us bs (N + 1) := by
  have := h.d.cut k219 (i : Int)
  rw [fd1_at, fd1_upd] at this
  refine Calls.mono this ?_
  rintro e w' ⟨r1, r2, r3⟩
  exact ⟨r1, h.turn r2 r3⟩
theorem Hd.field (h : Hd w W g q u b z us bs N) (i : Nat) :
    Calls Tryz.prog 32 #[.pointer (some ⟨g, 0, none⟩), .agg #[.int .i64 2, .int .i64 1, .int .i64 9], .int .i64 (i : Int)] W fun e w' => e = .returned (.tuple #[.int .i64 ((fldZ z (i : Int)).getD 0), .bool (fldZ z (i : Int)).isSome]) ∧ Hid (Hd w w' g q u b z us bs N) := by
  have := h.d.field k219 (i : Int)
  rw [fd1_at] at this
  refine Calls.mono this ?_
  rintro e w' ⟨r1, r2⟩
  exact ⟨r1, h.later r2⟩
theorem Hd.dict (h : Hd w W g q u b z us bs N) :
    Calls Tryz.prog 31 #[.pointer (some ⟨g, 0, none⟩), .agg #[.int .i64 2, .int .i64 1, .int .i64 9]] W fun e w' => ∃ p c, e = .returned (.slice p z.length c) ∧ Hid (Hd w w' g q u b z us bs N) := by
  have := h.d.dict k219
  rw [fd1_at] at this
  refine Calls.mono this ?_
  rintro e w' ⟨p, c, r1, _, r2⟩
  exact ⟨p, c, r1, h.later r2⟩
theorem Hd.keys (h : Hd w W g q u b z us bs N) (hN : N ≤ 1000) :
    Calls Tryz.prog 30 #[.pointer (some ⟨g, 0, none⟩)] W fun e w' => ∃ p c, e = .returned (.slice p (if z = [] then 0 else 1) c) ∧ Hid (Below w.heap.size w w') := by
  refine Calls.mono (dictKeys _ g N (fd1 z) W h.d.d hN) ?_
  rintro e w' ⟨v, ks, r1, r2, r3, r4, r5⟩
  obtain ⟨p, c, rfl⟩ := r4.shape
  have hks : ks = if z = [] then [] else [k219] := by
    by_cases hz : z = []
    · rw [if_pos hz]
      refine List.eq_nil_iff_forall_not_mem.2 (fun k hk => (r2 k).1 hk ?_)
      rw [hz, fd1_nil]
    · rw [if_neg hz]
      refine rise_eq r3 (List.pairwise_singleton _ _) (fun k => ?_)
      rw [r2 k, List.mem_singleton]
      unfold fd1 updR
      by_cases e : k = k219
      · simp [e, hz]
      · simp [e]
  refine ⟨p, c, ?_, h.d.b.trans (r5.mono h.d.b.size)⟩
  rw [r1, hks]
  split <;> rfl
/-- The law writes into its tables. -/
theorem Hd.note1 (h : Hd w W g q u b z us bs N) (i : Nat) (x : Bool) : Hd w (W.setCell ⟨b, i, none⟩ (.bool x)) g q u b z us (bs.set i x) N := by
  have t2 : Tch (fun j => j = b) W (W.setCell ⟨b, i, none⟩ (.bool x)) := (Tch.of (grown_setCell W b i (.bool x))).mono (fun k _ e => Option.some.inj e)
  have tt : Tch (fun k => k = q ∨ k = u ∨ k = b) W (W.setCell ⟨b, i, none⟩ (.bool x)) := t2.mono (fun k _ e => Or.inr (Or.inr e))
  exact ⟨h.d.turn tt (fun k hk => by have := h.qw; omega), t2.old h.k h.ne.2.1, t2.old h.hu h.ne.2.2, booO_set h.hb x, h.qw, h.ne⟩
theorem Hd.note (h : Hd w W g q u b z us bs N) (i : Nat) (v : Int) (x : Bool) : Hd w ((W.setCell ⟨u, i, none⟩ (.int .i64 v)).setCell ⟨b, i, none⟩ (.bool x)) g q u b z (us.set i v) (bs.set i x) N := by
  have t2 : Tch (fun j => j = u) W (W.setCell ⟨u, i, none⟩ (.int .i64 v)) := (Tch.of (grown_setCell W u i (.int .i64 v))).mono (fun k _ e => Option.some.inj e)
  have tt : Tch (fun k => k = q ∨ k = u ∨ k = b) W (W.setCell ⟨u, i, none⟩ (.int .i64 v)) := t2.mono (fun k _ e => Or.inr (Or.inl e))
  have h1 : Hd w (W.setCell ⟨u, i, none⟩ (.int .i64 v)) g q u b z (us.set i v) bs N := ⟨h.d.turn tt (fun k hk => by have := h.qw; omega), t2.old h.k h.ne.1, intO_set h.hu v, t2.old h.hb (fun e => h.ne.2.2 e.symm), h.qw, h.ne⟩
  exact h1.note1 i x
end
theorem len8 (x : Int) : ∃ (r : Int) (i : Nat), x.tmod 8 = r ∧ -8 < r ∧ r < 8 ∧ (r + 8) % 8 = (i : Int) ∧ i < 8 := by
  obtain ⟨r, i, h1, h2, h3, h4, h5⟩ := placeK x 8 (by omega)
  exact ⟨r, i, h1, by omega, by omega, h4, h5⟩

set_option maxRecDepth 100000 in
set_option maxHeartbeats 8000000 in
theorem walk (a0 : Option Addr) (n0 c0 : Nat) (z0 : List Int) (a1 : Option Addr) (n1 c1 : Nat) (z1 : List Int) (cc : Int) (w : World) (h0 : Row .i64 w a0 n0 c0 z0) (h1 : Row .i64 w a1 n1 c1 z1) (_wc : (Lit.int .i64 cc).wf = true) :
    Calls Tryz.prog 9 #[.slice a0 n0 c0, .slice a1 n1 c1, .int .i64 cc] w fun e w' => e = .returned (.bool true) ∧ Below w.heap.size w w' := by
  have HR0 := hide h0
  have HR1 := hide h1
  have hc0 := h0.2.1
  have hc1 := h1.2.1
  have hm0 := h0.2.2.1
  have hm1 := h1.2.2.1
  obtain ⟨rc, ic, ec, bc, bc', sc, hic⟩ := len8 cc
  clear h0 h1 _wc
  go_enter Tryz.func9, Tryz.ntmps9
  go_wp2_with fail
  refine (begun7_true _).mono ?_
  rintro e w1 ⟨rfl, hb1⟩
  go_wp2_with fail
  refine (dictNew _).mono ?_
  rintro e w2 ⟨rfl, rfl⟩
  have HD2 := hide (Dh.new w w1 hb1)
  go_wp2_with fail
  refine (key_219 _).mono ?_
  rintro e w3 ⟨rfl, hb3⟩
  have HD3 := hide (HD2.out.later hb3)
  clear HD2 hb3
  go_upto_block 0 with fail
  have HH0 : Hid (Hd w (((w3.alloc (.cells #[.int .i64 2, .int .i64 1, .int .i64 9] 28)).alloc (intO (List.replicate 8 0))).alloc (booO (List.replicate 8 false))) w1.heap.size w3.heap.size (w3.heap.size + 1) (w3.heap.size + 1 + 1) [] (List.replicate 8 0) (List.replicate 8 false) 0) := by
    have s1 : (w3.alloc (.cells #[.int .i64 2, .int .i64 1, .int .i64 9] 28)).heap.size = w3.heap.size + 1 := by simp
    have s2 : ((w3.alloc (.cells #[.int .i64 2, .int .i64 1, .int .i64 9] 28)).alloc (intO (List.replicate 8 0))).heap.size = w3.heap.size + 1 + 1 := by simp
    have hd := ((HD3.out.box (.cells #[.int .i64 2, .int .i64 1, .int .i64 9] 28)).box (intO (List.replicate 8 0))).box (booO (List.replicate 8 false))
    rw [s1, s2] at hd
    have k0 := heap_alloc_new w3 (.cells #[.int .i64 2, .int .i64 1, .int .i64 9] 28)
    have k1 := heap_alloc_new (w3.alloc (.cells #[.int .i64 2, .int .i64 1, .int .i64 9] 28)) (intO (List.replicate 8 0))
    have k2 := heap_alloc_new ((w3.alloc (.cells #[.int .i64 2, .int .i64 1, .int .i64 9] 28)).alloc (intO (List.replicate 8 0))) (booO (List.replicate 8 false))
    rw [s1] at k1
    rw [s2] at k2
    have b1 := below_alloc (w3.alloc (.cells #[.int .i64 2, .int .i64 1, .int .i64 9] 28)) (intO (List.replicate 8 0)) _ (Nat.le_refl _)
    have b2 := below_alloc ((w3.alloc (.cells #[.int .i64 2, .int .i64 1, .int .i64 9] 28)).alloc (intO (List.replicate 8 0))) (booO (List.replicate 8 false)) _ (Nat.le_refl _)
    have hw := HD3.out.b.size
    refine ⟨?_, boxed_old (boxed_old k0 b1) b2, boxed_old k1 b2, k2, by omega, by omega⟩
    rw [fd1_nil]
    exact hd.drop (fun j hj => by rcases hj with e | e | e <;> simp [e])
  have HT0 : Hid (Tb [] (List.replicate 8 0) (List.replicate 8 false)) := ⟨by simp, by simp, fun f hf => ⟨by rw [fld_nil, List.getElem?_replicate, if_pos hf]; rfl, fun v hv => by rw [fld_nil] at hv; cases hv⟩⟩
  have HS0 : Hid (∃ z us bs N, N ≤ 0 ∧ Hd w (((w3.alloc (.cells #[.int .i64 2, .int .i64 1, .int .i64 9] 28)).alloc (.cells #[.int .i64 0, .int .i64 0, .int .i64 0, .int .i64 0, .int .i64 0, .int .i64 0, .int .i64 0, .int .i64 0] 69)).alloc (.cells #[.bool false, .bool false, .bool false, .bool false, .bool false, .bool false, .bool false, .bool false] 70)) w1.heap.size w3.heap.size (w3.heap.size + 1) (w3.heap.size + 1 + 1) z us bs N ∧ Tb z us bs) := ⟨[], List.replicate 8 0, List.replicate 8 false, 0, Nat.le_refl _, HH0.out, HT0.out⟩
  clear HH0 HT0 HD3
  generalize ((w3.alloc (.cells #[.int .i64 2, .int .i64 1, .int .i64 9] 28)).alloc (.cells #[.int .i64 0, .int .i64 0, .int .i64 0, .int .i64 0, .int .i64 0, .int .i64 0, .int .i64 0, .int .i64 0] 69)).alloc (.cells #[.bool false, .bool false, .bool false, .bool false, .bool false, .bool false, .bool false, .bool false] 70) = W3 at *
  generalize w3.heap.size + 1 + 1 = b at *
  generalize w3.heap.size + 1 = u at *
  generalize w3.heap.size = q at *
  have hb1s := hb1.size
  generalize w1.heap.size = g at *
  clear hb1 hb1s
  go_cut [12] from 23 to 61 (fun _ wc => Hid (∃ z us bs N, N ≤ 30 ∧ Hd w wc g q u b z us bs N ∧ Tb z us bs))
  case first =>
    go_wp2_with fail
    go_loopg [12] 30 (fun gm ix wr => ∃ k : Nat, gm = 30 - k ∧ k ≤ n0 ∧ k ≤ 30 ∧ ix = .int .i64 k ∧ Hid (∃ z us bs N, N ≤ k ∧ Hd w wr g q u b z us bs N ∧ Tb z us bs))
    case atStart => exact ⟨0, rfl, by omega, by omega, rfl, HS0⟩
    case round =>
      clear HS0
      obtain ⟨k, rfl, hk, hk30, rfl, HS⟩ := hrel
      by_cases hin : k < n0 ∧ k < n1 ∧ k < 30
      · obtain ⟨hk0, hk1, hlt30⟩ := hin
        obtain ⟨z, us, bs, N, hN, hH, hT⟩ := HS.out
        have hl0 := HR0.out.1
        have hl1 := HR1.out.1
        obtain ⟨b0, o0, rfl, hq0⟩ := HR0.out.2.2.2.2.1 (by omega)
        obtain ⟨b1, o1, rfl, hq1⟩ := HR1.out.2.2.2.2.1 (by omega)
        have q1 := hq1 k hk1
        have p0 : wr.cell? ⟨b0, o0 + k, none⟩ = some (.int .i64 (z0.getD k 0)) := (hH.d.b.cell (World.block_lt_of_cell? w _ (hq0 k hk0))).trans (hq0 k hk0)
        have p1 : wr.cell? ⟨b1, o1 + k, none⟩ = some (.int .i64 (z1.getD k 0)) := (hH.d.b.cell (World.block_lt_of_cell? w _ q1)).trans q1
        obtain ⟨r, i, er, br, br', sr, hi8⟩ := len8 (z0.getD k 0)
        have HP1 : Hid (∀ W, Below w.heap.size w W → W.cell? ⟨b1, o1 + k, none⟩ = some (.int .i64 (z1.getD k 0))) := fun W hb => (hb.cell (World.block_lt_of_cell? w _ q1)).trans q1
        generalize z0.getD k 0 = x at *
        generalize z1.getD k 0 = y at *
        have HH := hide hH
        have HT := hide hT
        obtain ⟨x0, x1, x2⟩ := hH.cells
        have s0d : wr.drew.cell? ⟨q, 0, none⟩ = some (.int .i64 2) ∧ wr.drew.cell? ⟨q, 1, none⟩ = some (.int .i64 1) ∧ wr.drew.cell? ⟨q, 2, none⟩ = some (.int .i64 9) ∧ wr.drew.cell? ⟨b1, o1 + k, none⟩ = some (.int .i64 y) := ⟨x0, x1, x2, p1⟩
        have HC : Hid (Calls Tryz.prog 28 #[.pointer (some ⟨g, 0, none⟩), .agg #[.int .i64 2, .int .i64 1, .int .i64 9], .int .i64 (i : Int), .int .i64 y] wr.drew fun e w' => e = .returned (.int .i64 0) ∧ Hid (Hd w w' g q u b (putZ z (i : Int) y) us bs (N + 1)) ∧ (w'.cell? ⟨q, 0, none⟩ = some (.int .i64 2) ∧ w'.cell? ⟨q, 1, none⟩ = some (.int .i64 1) ∧ w'.cell? ⟨q, 2, none⟩ = some (.int .i64 9) ∧ w'.cell? ⟨b1, o1 + k, none⟩ = some (.int .i64 y))) := by
          refine Calls.mono ((HH.out.later (Below.refl _ _).drew).put i y hi8) ?_
          rintro e w' ⟨r1, r2⟩
          obtain ⟨y0, y1, y2⟩ := r2.cells
          exact ⟨r1, r2, y0, y1, y2, HP1.out w' r2.d.b⟩
        have HRZ := hide hH.rise.1
        clear hH hT HS hq0 hq1 q1 hl0 hl1 HR0 HR1 x0 x1 x2
        go_wp2
        go_region_held3 (fun w' => w'.cell? ⟨q, 0, none⟩ = some (.int .i64 2) ∧ w'.cell? ⟨q, 1, none⟩ = some (.int .i64 1) ∧ w'.cell? ⟨q, 2, none⟩ = some (.int .i64 9) ∧ w'.cell? ⟨b1, o1 + k, none⟩ = some (.int .i64 y)) (first | with_reducible exact s0d | with_reducible exact s1) ((go_at_call 28; with_reducible refine HC.out.mono ?_; rintro e W1 ⟨rfl, H1, s1⟩))
        all_goals
          have p1' := s1.2.2.2
          obtain ⟨xu, hxu⟩ : ∃ xu, us[i]? = some xu := ⟨_, List.getElem?_eq_getElem (by have := HT.out.lu; omega)⟩
          obtain ⟨xb, hxb⟩ : ∃ xb, bs[i]? = some xb := ⟨_, List.getElem?_eq_getElem (by have := HT.out.lb; omega)⟩
          have cu := intO_cell H1.out.hu hxu
          have cb := booO_cell H1.out.hb hxb
          have fu := intO_free (i := i) H1.out.hu
          have fb := booO_free (i := i) H1.out.hb
          have nub : u ≠ b := H1.out.ne.2.2
          have nbu : b ≠ u := fun e => nub e.symm
          have hi8' : (i : Int) < 8 := by omega
          have HN := hide (H1.out.note i y true)
          have HTN := hide (HT.out.put HRZ.out i y)
          clear HC s0d s1 H1 HH HT HRZ HP1 p0 p1
          go_wp2
          go_roundg (30 - (k + 1))
          case measure => omega
          case rel => exact ⟨k + 1, rfl, by omega, by omega, by simp, _, _, _, _, by omega, HN.out, HTN.out⟩
      · have hcs : (¬ k < n0) ∨ (k < n0 ∧ ¬ k < n1) ∨ (k < n0 ∧ k < n1 ∧ ¬ k < 30) := by omega
        clear hin HR0 HR1
        have HF : Hid (∃ z us bs N, N ≤ 30 ∧ Hd w wr g q u b z us bs N ∧ Tb z us bs) := by
          obtain ⟨z, us, bs, N, hN, hH, hT⟩ := HS.out
          exact ⟨z, us, bs, N, by omega, hH, hT⟩
        clear HS
        rcases hcs with hh | ⟨hh, hh2⟩ | ⟨hh, hh2, hh3⟩
        all_goals
          go_wp2_with fail
          go_meet
          case rel => exact HF
  case rest =>
    obtain ⟨z, us, bs, N, hN, hH, hT⟩ := hcut.out
    obtain ⟨x0, x1, x2⟩ := hH.cells
    have HRZ := hide hH.rise
    have HT := hide hT
    have hbs : bs[ic]? = some (fldZ z (ic : Int)).isSome := (hT.at' ic hic).1
    have c0b := booO_cell hH.hb hbs
    obtain ⟨p, hp⟩ : ∃ p, (fldZ z (ic : Int)).isSome = p := ⟨_, rfl⟩
    rw [hp] at c0b hbs
    have hcell : ∀ {W : World} {z' : List (Int × Int)} {N' : Nat}, Hd w W g q u b z' us bs N' → (W.cell? ⟨q, 0, none⟩ = some (.int .i64 2) ∧ W.cell? ⟨q, 1, none⟩ = some (.int .i64 1) ∧ W.cell? ⟨q, 2, none⟩ = some (.int .i64 9) ∧ W.cell? ⟨b, ic, none⟩ = some (.bool p)) := fun h => by
      obtain ⟨y0, y1, y2⟩ := h.cells
      exact ⟨y0, y1, y2, booO_cell h.hb hbs⟩
    have s0d : wc.drew.cell? ⟨q, 0, none⟩ = some (.int .i64 2) ∧ wc.drew.cell? ⟨q, 1, none⟩ = some (.int .i64 1) ∧ wc.drew.cell? ⟨q, 2, none⟩ = some (.int .i64 9) ∧ wc.drew.cell? ⟨b, ic, none⟩ = some (.bool p) := ⟨x0, x1, x2, c0b⟩
    have HC : Hid (Calls Tryz.prog 29 #[.pointer (some ⟨g, 0, none⟩), .agg #[.int .i64 2, .int .i64 1, .int .i64 9], .int .i64 (ic : Int)] wc.drew fun e w' => e = .returned (.bool p) ∧ Hid (Hd w w' g q u b (cutZ z (ic : Int)) us bs (N + 1)) ∧ (w'.cell? ⟨q, 0, none⟩ = some (.int .i64 2) ∧ w'.cell? ⟨q, 1, none⟩ = some (.int .i64 1) ∧ w'.cell? ⟨q, 2, none⟩ = some (.int .i64 9) ∧ w'.cell? ⟨b, ic, none⟩ = some (.bool p))) := by
      refine Calls.mono ((hH.later (Below.refl _ _).drew).cut ic) ?_
      rintro e w' ⟨r1, r2⟩
      rw [hp] at r1
      exact ⟨r1, r2, hcell r2⟩
    have HC2 : Hid (∀ W, Hid (Hd w W g q u b (cutZ z (ic : Int)) us bs (N + 1)) → Calls Tryz.prog 29 #[.pointer (some ⟨g, 0, none⟩), .agg #[.int .i64 2, .int .i64 1, .int .i64 9], .int .i64 (ic : Int)] W fun e w' => e = .returned (.bool false) ∧ Hid (Hd w w' g q u b (cutZ (cutZ z (ic : Int)) (ic : Int)) us bs (N + 1 + 1)) ∧ (w'.cell? ⟨q, 0, none⟩ = some (.int .i64 2) ∧ w'.cell? ⟨q, 1, none⟩ = some (.int .i64 1) ∧ w'.cell? ⟨q, 2, none⟩ = some (.int .i64 9) ∧ w'.cell? ⟨b, ic, none⟩ = some (.bool p))) := fun W hW => by
      refine Calls.mono (hW.out.cut ic) ?_
      rintro e w' ⟨r1, r2⟩
      rw [fld_cut _ HRZ.out.1, if_pos rfl] at r1
      exact ⟨r1, r2, hcell r2⟩
    have HTN : Hid (Tb (cutZ (cutZ z (ic : Int)) (ic : Int)) us (bs.set ic false)) := by
      have := (HT.out.cut HRZ.out.1 ic).cut (HRZ.out.cut (ic : Int)).1 ic
      rwa [List.set_set] at this
    have hic8 : (ic : Int) < 8 := by omega
    clear hcell hH hT hcut HS0 HR0 HR1 hbs x0 x1 x2 c0b hp
    go_wp2
    go_region_held3 (fun w' => w'.cell? ⟨q, 0, none⟩ = some (.int .i64 2) ∧ w'.cell? ⟨q, 1, none⟩ = some (.int .i64 1) ∧ w'.cell? ⟨q, 2, none⟩ = some (.int .i64 9) ∧ w'.cell? ⟨b, ic, none⟩ = some (.bool p)) (first | with_reducible exact s0d | with_reducible exact s1 | with_reducible exact s2) (first | (go_at_call 29; with_reducible refine HC.out.mono ?_; rintro e W1 ⟨rfl, H1, s1⟩) | (go_at_call 29; with_reducible refine (HC2.out _ H1).mono ?_; rintro e W2 ⟨rfl, H2, s2⟩))
    all_goals
      have cb := s2.2.2.2
      have fb := booO_free (i := ic) H2.out.hb
      have H3 := hide (H2.out.note1 ic false)
      clear HC HC2 s0d s1 s2 H1 H2 HT HRZ bc bc' sc ec hic
      generalize cutZ (cutZ z (ic : Int)) (ic : Int) = y at *
      generalize bs.set ic false = bt at *
      obtain ⟨M, hM⟩ : ∃ M, N + 1 + 1 = M := ⟨_, rfl⟩
      rw [hM] at H3
      have hMl : M ≤ 32 := by omega
      clear hM hN
      go_wp2_with fail
      clear cb fb
      generalize W2.setCell ⟨b, ic, none⟩ (.bool false) = W3 at *
      have HOK := hide H3.out.rise
      have HLEN := hide H3.out.rise.len
      go_loopg [14, 82] 8 (fun gm vn ix wr => ∃ f : Nat, gm = 8 - f ∧ f ≤ 8 ∧ ix = .int .i64 f ∧ vn = .int .i64 (cntF (fldZ y) f : Nat) ∧ Hid (Hd w wr g q u b y us bt M))
      case atStart => exact ⟨0, rfl, by omega, rfl, by simp [cntF], H3⟩
      case round =>
        clear H3
        obtain ⟨f, rfl, hf, rfl, rfl, HH⟩ := hrel
        have hcf := cntF_le (fldZ y) f
        have hcs := cntF_succ (fldZ y) f
        by_cases hlt : f < 8
        · have hff : (f : Int) < 8 := by omega
          obtain ⟨x0, x1, x2⟩ := HH.out.cells
          have HF := hide (HH.out.field f)
          obtain ⟨t1, t2⟩ := HTN.out.at' f hlt
          have HCB : Hid (∀ W, Hd w W g q u b y us bt M → W.cell? ⟨b, f, none⟩ = some (.bool (fldZ y (f : Int)).isSome)) := fun W h => booO_cell h.hb t1
          have HCU : Hid (∀ W v, Hd w W g q u b y us bt M → fldZ y (f : Int) = some v → W.cell? ⟨u, f, none⟩ = some (.int .i64 v)) := fun W v h hv => intO_cell h.hu (t2 v hv)
          generalize cntF (fldZ y) f = cn at *
          generalize fldZ y (f : Int) = o at *
          clear t1 t2 HTN HOK HLEN
          cases o with
          | none =>
            simp only [Option.isSome_none, Option.getD_none] at HF HCB hcs
            go_wp2_with fail
            refine HF.out.mono ?_
            rintro e W4 ⟨rfl, H4⟩
            have cb := HCB.out W4 H4.out
            clear HF HCB HCU x0 x1 x2 HH
            go_wp2
            go_roundg (8 - (f + 1))
            case measure => omega
            case rel => exact ⟨f + 1, rfl, by omega, by simp, by simp [hcs], H4⟩
          | some v =>
            simp only [Option.isSome_some, Option.getD_some] at HF HCB hcs
            go_wp2_with fail
            refine HF.out.mono ?_
            rintro e W4 ⟨rfl, H4⟩
            have cb := HCB.out W4 H4.out
            have cu := HCU.out W4 v H4.out rfl
            clear HF HCB HCU x0 x1 x2 HH
            go_wp2
            go_roundg (8 - (f + 1))
            case measure => omega
            case rel => exact ⟨f + 1, rfl, by omega, by simp, by simp [hcs], H4⟩
        · obtain rfl : f = 8 := by omega
          obtain ⟨x0, x1, x2⟩ := HH.out.cells
          have HF := hide HH.out.dict
          have hle := HOK.out.le
          rw [HLEN.out]
          clear hcf hcs
          go_wp2_with fail
          refine HF.out.mono ?_
          rintro e W4 ⟨p1, c1', rfl, H4⟩
          have HK := hide (H4.out.keys (by omega))
          clear HF HH x0 x1 x2 HTN HOK HLEN
          cases y with
          | nil =>
            simp only [if_true] at HK
            go_wp2_with fail
            refine HK.out.mono ?_
            rintro e W5 ⟨p2, c2, rfl, HB⟩
            clear HK H4
            go_wp2
            go_ret
            exact ⟨by simp, HB.out⟩
          | cons x y =>
            simp only [reduceCtorEq, if_false] at HK
            have hpos : (0 : Int) < ((x :: y).length : Int) := by simp
            generalize (x :: y).length = n at *
            go_wp2_with fail
            refine HK.out.mono ?_
            rintro e W5 ⟨p2, c2, rfl, HB⟩
            clear HK H4
            go_wp2
            go_ret
            exact ⟨by simp; omega, HB.out⟩

theorem own : ownKnob Tryz.prog.godebug = none := by kernel_rfl
theorem laidOut : laidOutB Tryz.prog = true := by kernel_rfl

set_option maxRecDepth 100000 in
theorem lifted (os : Os) (started : os.Started) (H : Type) (enc : TypeId × Value → H) :
    ReturnsInHanded {} Tryz.checked os 9 .any (Rows.dictOneSpec.pre6 enc Tryz.prog Tryz.f9 Rows.dictOneRow.domain false) (Rows.dictOneSpec.post enc Tryz.prog Tryz.f9 false true false false) := by
  refine returnsInHanded_of_change (C := Tryz.checked) own started (by kernel_rfl) Tryz.func9
    (ChangeSpec.witness6 (enc := enc) (C := Tryz.checked) false ⟨#[], #[.slice none 0 0, .slice none 0 0, .int .i64 0], []⟩ 8 (by kernel_rfl) (by kernel_rfl) (by kernel_rfl) (by kernel_rfl)) ?_
  intro W base args ds gs before hval0 hW hcnd _
  have hval : ∀ (j : Nat) t v, Tryz.f9.params[j]? = some t → args[j]? = some v → Value.okWide Tryz.prog W .any base t v := hval0
  have hW' := hW
  obtain ⟨p, q, hA0, hV, rfl, hfz, hnd⟩ := hW
  have hA : DataW.TrodAll enc Tryz.prog W 0 (fun _ => true) true Tryz.f9.params.toList args.toList ds p := hA0
  rw [Tryz.params9] at hA hval
  obtain ⟨v0, vs0, d0, ds0, p0, q0, hargs, rfl, rfl, h0, r0⟩ := trodAll_cons hA
  obtain ⟨v1, vs1, d1, ds1, p1, q1, rfl, rfl, rfl, h1, r1⟩ := trodAll_cons r0
  obtain ⟨v2, vs2, d2, ds2, p2, q2, rfl, rfl, rfl, h2, r2⟩ := trodAll_cons r1
  obtain ⟨rfl, rfl, rfl⟩ := trodAll_nil r2
  obtain rfl : args = #[v0, v1, v2] := by cases args; simp_all
  obtain ⟨rfl, rfl⟩ := trodVars_none hV
  obtain ⟨a0, n0, c0, rfl⟩ := okWide_slice Tryz.underlying29 (hval 0 29 v0 rfl rfl)
  have k0 := h0
  have lt0 : ∀ x ∈ p0, x.block < W.heap.size := by obtain ⟨m, hm⟩ := k0; exact DataW.trod_lt m _ _ _ hm
  obtain ⟨z0, w0⟩ : ∃ zs, Row .i64 W a0 n0 c0 zs := by
    obtain ⟨fuel, hf⟩ := h0
    rcases open_ints Tryz.underlying29 Tryz.underlying2 (by kernel_rfl) hf with ⟨hcs, _⟩ | ⟨x, l, c, zs, hcs, _, hl, hm, hz, _, hcell, hwz⟩
    · simp [Value.cells] at hcs; obtain ⟨rfl, rfl, rfl⟩ := hcs; exact ⟨[], row_none _ _⟩
    · simp [Value.cells] at hcs; obtain ⟨rfl, rfl, rfl⟩ := hcs; exact ⟨_, row_some hl hm (by simpa using hz) hcell hwz⟩
  obtain ⟨a1, n1, c1, rfl⟩ := okWide_slice Tryz.underlying29 (hval 1 29 v1 rfl rfl)
  have k1 := h1
  have lt1 : ∀ x ∈ p1, x.block < W.heap.size := by obtain ⟨m, hm⟩ := k1; exact DataW.trod_lt m _ _ _ hm
  obtain ⟨z1, w1⟩ : ∃ zs, Row .i64 W a1 n1 c1 zs := by
    obtain ⟨fuel, hf⟩ := h1
    rcases open_ints Tryz.underlying29 Tryz.underlying2 (by kernel_rfl) hf with ⟨hcs, _⟩ | ⟨x, l, c, zs, hcs, _, hl, hm, hz, _, hcell, hwz⟩
    · simp [Value.cells] at hcs; obtain ⟨rfl, rfl, rfl⟩ := hcs; exact ⟨[], row_none _ _⟩
    · simp [Value.cells] at hcs; obtain ⟨rfl, rfl, rfl⟩ := hcs; exact ⟨_, row_some hl hm (by simpa using hz) hcell hwz⟩
  obtain ⟨a2, rfl, rfl, rfl, w2⟩ := open_int Tryz.underlying2 (hval 2 2 v2 rfl rfl) h2
  clear hA0 hval0
  refine (walk a0 n0 c0 z0 a1 n1 c1 z1 a2 W w0 w1 w2).mono fun e W' ⟨he, bel⟩ => ?_
  subst he
  exact ⟨_, rfl, _, _, _, [], _, [], hW', trodAll_mk1 (shut_bool Tryz.underlying4 _), (trodAll_cons_mk (Below.trod laidOut (by kernel_rfl) (of_decide_eq_true (by kernel_rfl)) k0 bel lt0) (trodAll_cons_mk (Below.trod laidOut (by kernel_rfl) (of_decide_eq_true (by kernel_rfl)) k1 bel lt1) (trodAll_cons_mk (shut_int Tryz.underlying2 w2) trodAll_mk0))), rfl, bel.frame _, fun h => by cases h⟩

theorem over : Rows.dictOneRow.holds Tryz.pinned (OpenSpec.ofChange Rows.dictOneSpec) :=
  OpenClaim.holds_of_wide 9 Tryz.f9 rfl rfl rfl rfl rfl rfl rfl ⟨rfl, rfl, rfl, rfl, rfl⟩ rfl rfl rfl rfl rfl (by kernel_rfl) Tryz.func9 (by kernel_rfl)
    (of_decide_eq_true (by kernel_rfl)) (by unfold Func.isWrapper; first | (rw [if_pos (by decide +kernel)]; kernel_rfl) | (rw [if_neg (by decide +kernel)]; exact ⟨rfl, rfl⟩))
    (fun os started H enc _ => lifted os started H enc)

theorem proved : Rows.DictOneSaid := over
#print axioms proved
end Go.Proofs.YtkchfbigkecodaaGreat.dictOne
