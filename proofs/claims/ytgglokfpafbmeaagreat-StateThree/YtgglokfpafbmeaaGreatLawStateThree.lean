/- The statement StateThree: the three at one key do not touch one another, for all numbers. -/
import Derived.Test.YtgglokfpafbmeaaGreatStaC
import Derived.Test.YtgglokfpafbmeaaGreatKeyF
import Derived.Test.YtgglokfpafbmeaaGreatBeg7
import Derived.Test.YtgglokfpafbmeaaGreatLawA
namespace Go.Proofs.YtgglokfpafbmeaaGreat.stateThree
open Go.ChangeShapes Go.WideShapes Go.ChangeAt Go.RowKit Go.MapKept Go.ChangeMaps

theorem len8 (x : Int) : ∃ (r : Int) (i : Nat), x.tmod 8 = r ∧ -8 < r ∧ r < 8 ∧ (r + 8) % 8 = (i : Int) ∧ i < 8 := by
  obtain ⟨r, i, h1, h2, h3, h4, h5⟩ := placeK x 8 (by omega)
  exact ⟨r, i, h1, by omega, by omega, h4, h5⟩

/-- What the state is, step by step. -/
def aT (κ : K3) (i : Nat) (v : Int) (h : Bool) : Ab := ⟨fun k => if k = κ ∧ h = true then some v else none, fun k => if k = κ then [v] else [], fun k => if k = κ then [((i : Int), v)] else []⟩
def cSet (κ : K3) (v : Int) : Mq := ⟨1, κ, 0, v⟩
def cPush (κ : K3) (v : Int) : Mq := ⟨3, κ, 0, v⟩
def cPut (κ : K3) (i : Nat) (v : Int) : Mq := ⟨5, κ, i, v⟩
def cDel (κ : K3) : Mq := ⟨2, κ, 0, 0⟩
def cClear (κ : K3) : Mq := ⟨4, κ, 0, 0⟩
def cCut (κ : K3) (i : Nat) : Mq := ⟨6, κ, i, 0⟩
theorem ab_ext {a b : Ab} (h1 : ∀ k, a.V k = b.V k) (h2 : ∀ k, a.L k = b.L k) (h3 : ∀ k, a.D k = b.D k) : a = b := by
  obtain ⟨V, L, D⟩ := a
  obtain ⟨V', L', D'⟩ := b
  obtain rfl : V = V' := funext h1
  obtain rfl : L = L' := funext h2
  obtain rfl : D = D' := funext h3
  rfl
theorem run_1 (κ : K3) (i : Nat) (v : Int) : runQ ab0 [cSet κ v, cPush κ v, cPut κ i v] = aT κ i v true := by
  refine ab_ext (fun k => ?_) (fun k => ?_) (fun k => ?_) <;> by_cases e : k = κ <;> simp [runQ, doQ, cSet, cPush, cPut, ab0, aT, updK, updR, e]
  rfl
theorem run_2 (κ : K3) (i : Nat) (v : Int) : runQ (aT κ i v true) [cDel κ] = aT κ i v false := by
  refine ab_ext (fun k => ?_) (fun k => ?_) (fun k => ?_) <;> by_cases e : k = κ <;> simp [runQ, doQ, cDel, aT, updK, e]
theorem cut_one (f v : Int) : cutF [(f, v)] f = [] := by
  rw [cutF_eq, cut_eq (List.pairwise_singleton _ _) rfl]
theorem run_3 (κ : K3) (i : Nat) (v : Int) : runQ (aT κ i v false) [cClear κ, cCut κ i] = ab0 := by
  refine ab_ext (fun k => ?_) (fun k => ?_) (fun k => ?_) <;> by_cases e : k = κ <;> simp [runQ, doQ, cClear, cCut, aT, ab0, updR, e, cut_one]
theorem fld_one (f v : Int) : fldZ [(f, v)] f = some v := fld_eq (x := (f, v)) (List.pairwise_singleton _ _) rfl
theorem kof_one (κ : K3) (i : Nat) (v : Int) (h : Bool) : Kof (aT κ i v h) [κ] := by
  refine ⟨List.pairwise_singleton _ _, fun k => ?_⟩
  by_cases e : k = κ <;> simp [aT, e]
theorem kof_0 : Kof ab0 [] := ⟨List.Pairwise.nil, fun k => by simp [ab0]⟩

theorem key_in (a b c : Int) : keyB (keyF a b c).g (keyF a b c).n (keyF a b c).i = true := by
  have hb : 0 ≤ bits BinOp.and IntKind.i64 b 1 ∧ bits BinOp.and IntKind.i64 b 1 < 2 := by
    have h : (BitVec.ofInt 64 b &&& BitVec.ofInt 64 1).toNat < 2 := by
      have e : (BitVec.ofInt 64 1).toNat = 1 := by decide
      rw [BitVec.toNat_and, e, Nat.and_one_is_mod]
      omega
    show 0 ≤ IntKind.i64.wrap (((BitVec.ofInt 64 b &&& BitVec.ofInt 64 1).toNat : Nat) : Int) ∧ IntKind.i64.wrap (((BitVec.ofInt 64 b &&& BitVec.ofInt 64 1).toNat : Nat) : Int) < 2
    rw [IntKind.wrap_i64]
    omega
  have h1 : 0 ≤ (a.tmod 4 + 4) % 4 ∧ (a.tmod 4 + 4) % 4 < 4 := by omega
  have h2 : 0 ≤ (c.tmod 24 + 24) % 24 ∧ (c.tmod 24 + 24) % 24 < 24 := by omega
  have e : keyB (keyF a b c).g (keyF a b c).n (keyF a b c).i = (inR ((a.tmod 4 + 4) % 4) 4 && inR (bits BinOp.and IntKind.i64 b 1) 2 && inR ((c.tmod 24 + 24) % 24) 24) := rfl
  rw [e]
  unfold inR
  rw [decide_eq_true h1, decide_eq_true hb, decide_eq_true h2]
  rfl

theorem ms3 {w : World} {r : Nat} (m1 m2 m3 : Mt) (h : w.heap[r]? = some (.cells #[.int .i64 m1.k, .int .i64 m1.g, .int .i64 m1.n, .int .i64 m1.i, .int .i64 m1.f, .int .i64 m1.v, .int .i64 m2.k, .int .i64 m2.g, .int .i64 m2.n, .int .i64 m2.i, .int .i64 m2.f, .int .i64 m2.v, .int .i64 m3.k, .int .i64 m3.g, .int .i64 m3.n, .int .i64 m3.i, .int .i64 m3.f, .int .i64 m3.v] 61 (0, 0))) :
    Ms w (some ⟨r, 0, none⟩) 3 [m1, m2, m3] := by
  refine ⟨rfl, fun _ => ⟨r, 0, rfl, fun i m hm => ?_⟩⟩
  match i, hm with
  | 0, hm => simp at hm; subst hm; simp [World.cell?, h]
  | 1, hm => simp at hm; subst hm; simp [World.cell?, h]
  | 2, hm => simp at hm; subst hm; simp [World.cell?, h]
  | i + 3, hm => simp at hm
theorem ms2 {w : World} {r : Nat} (m1 m2 : Mt) (h : w.heap[r]? = some (.cells #[.int .i64 m1.k, .int .i64 m1.g, .int .i64 m1.n, .int .i64 m1.i, .int .i64 m1.f, .int .i64 m1.v, .int .i64 m2.k, .int .i64 m2.g, .int .i64 m2.n, .int .i64 m2.i, .int .i64 m2.f, .int .i64 m2.v] 61 (0, 0))) :
    Ms w (some ⟨r, 0, none⟩) 2 [m1, m2] := by
  refine ⟨rfl, fun _ => ⟨r, 0, rfl, fun i m hm => ?_⟩⟩
  match i, hm with
  | 0, hm => simp at hm; subst hm; simp [World.cell?, h]
  | 1, hm => simp at hm; subst hm; simp [World.cell?, h]
  | i + 2, hm => simp at hm
theorem ms1 {w : World} {r : Nat} (m1 : Mt) (h : w.heap[r]? = some (.cells #[.int .i64 m1.k, .int .i64 m1.g, .int .i64 m1.n, .int .i64 m1.i, .int .i64 m1.f, .int .i64 m1.v] 61 (0, 0))) :
    Ms w (some ⟨r, 0, none⟩) 1 [m1] := by
  refine ⟨rfl, fun _ => ⟨r, 0, rfl, fun i m hm => ?_⟩⟩
  match i, hm with
  | 0, hm => simp at hm; subst hm; simp [World.cell?, h]
  | i + 1, hm => simp at hm

/-- What is held: the state, the key's box. -/
structure Hd (w W : World) (s gv gl gd q : Nat) (κ : K3) (a : Ab) (N : Nat) : Prop where
  h : Sh w W s gv gl gd (fun k => k = q) a N
  k : W.heap[q]? = some (k3O κ)
  qg : q < gv
  qw : w.heap.size ≤ q
def Six (W : World) (s gv gl gd q : Nat) (κ : K3) : Prop :=
  W.cell? ⟨s, 0, none⟩ = some (.pointer (some ⟨gv, 0, none⟩)) ∧ W.cell? ⟨s, 1, none⟩ = some (.pointer (some ⟨gl, 0, none⟩)) ∧ W.cell? ⟨s, 2, none⟩ = some (.pointer (some ⟨gd, 0, none⟩)) ∧
  W.cell? ⟨q, 0, none⟩ = some (.int .i64 κ.g) ∧ W.cell? ⟨q, 1, none⟩ = some (.int .i64 κ.n) ∧ W.cell? ⟨q, 2, none⟩ = some (.int .i64 κ.i)
section
variable {w W W' : World} {s gv gl gd q N : Nat} {κ : K3} {a : Ab}
theorem Hd.later (h : Hd w W s gv gl gd q κ a N) (hb : Below W.heap.size W W') : Hd w W' s gv gl gd q κ a N := ⟨h.h.later hb, boxed_old h.k hb, h.qg, h.qw⟩
theorem Hd.six (h : Hd w W s gv gl gd q κ a N) : Six W s gv gl gd q κ := by
  obtain ⟨c0, c1, c2⟩ := h.h.cells
  obtain ⟨y0, y1, y2⟩ := cells_three h.k
  exact ⟨c0, c1, c2, y0, y1, y2⟩
/-- Do of changes that were built just now. -/
theorem Hd.done (h : Hd w W s gv gl gd q κ a N) (o : Obj) (n cc : Nat) (xs : List Mq) (hm : Ms (W.alloc o) (some ⟨W.heap.size, 0, none⟩) n (xs.map Mq.m)) (hn : n ≤ 100000) (hmay : (xs.map Mq.m).all mayB = true) (hroom : roomB a.L (fun _ => none) xs = true) :
    Calls Tryz.prog 25 #[.pointer (some ⟨s, 0, none⟩), .slice (some ⟨W.heap.size, 0, none⟩) n cc] (W.alloc o) fun e w' => e = .returned (.int .i64 0) ∧ Hid (Hd w w' s gv gl gd q κ (runQ a xs) (N + n)) := by
  have hbx := h.h.box o
  have hb := below_alloc W o W.heap.size (Nat.le_refl _)
  have hk := boxed_old h.k hb
  refine Calls.mono (hbx.do' (some ⟨W.heap.size, 0, none⟩) n cc xs hm hn (fun b o e => Or.inr (Or.inr (by cases e; rfl))) hmay hroom) ?_
  rintro e w' ⟨r1, r2, r3⟩
  exact ⟨r1, r2.drop (fun j hj => Or.inl hj), r3.old hk (fun e => e.2 (Or.inl rfl)), h.qg, h.qw⟩
theorem Hd.value (h : Hd w W s gv gl gd q κ a N) :
    Calls Tryz.prog 40 #[.pointer (some ⟨gv, 0, none⟩), k3E κ] W fun e w' => e = .returned (.tuple #[.int .i64 ((a.V κ).getD 0), .bool (a.V κ).isSome]) ∧ Hid (Hd w w' s gv gl gd q κ a N) ∧ Six w' s gv gl gd q κ := by
  refine Calls.mono (h.h.value κ) ?_
  rintro e w' ⟨r1, _, r3⟩
  exact ⟨r1, h.later r3, (h.later r3).six⟩
theorem Hd.field (h : Hd w W s gv gl gd q κ a N) (f : Int) :
    Calls Tryz.prog 21 #[.pointer (some ⟨gd, 0, none⟩), k3E κ, .int .i64 f] W fun e w' => e = .returned (.tuple #[.int .i64 ((fldZ (a.D κ) f).getD 0), .bool (fldZ (a.D κ) f).isSome]) ∧ Hid (Hd w w' s gv gl gd q κ a N) ∧ Six w' s gv gl gd q κ := by
  refine Calls.mono (h.h.field κ f) ?_
  rintro e w' ⟨r1, _, r3⟩
  exact ⟨r1, h.later r3, (h.later r3).six⟩
theorem Hd.dict (h : Hd w W s gv gl gd q κ a N) (p : Int × Int) (hp : a.D κ = [p]) :
    Calls Tryz.prog 19 #[.pointer (some ⟨gd, 0, none⟩), k3E κ] W fun e w' => ∃ y c, e = .returned (.slice y 1 c) ∧ Hid (Hd w w' s gv gl gd q κ a N) ∧ Six w' s gv gl gd q κ := by
  refine Calls.mono (h.h.dict κ) ?_
  rintro e w' ⟨y, c, r1, _, r3⟩
  rw [hp] at r1
  exact ⟨y, c, r1, h.later r3, (h.later r3).six⟩
theorem Hd.list (h : Hd w W s gv gl gd q κ a N) (v : Int) (hp : a.L κ = [v]) :
    Calls Tryz.prog 41 #[.pointer (some ⟨gl, 0, none⟩), k3E κ] W fun e w' => ∃ y c, e = .returned (.slice (some ⟨y, 0, none⟩) 1 c) ∧ 0 < c ∧ w'.cell? ⟨y, 0, none⟩ = some (.int .i64 v) ∧ Hid (Hd w w' s gv gl gd q κ a N) ∧ Six w' s gv gl gd q κ := by
  refine Calls.mono (h.h.list κ) ?_
  rintro e w' ⟨y, c, r1, r2, _, r3⟩
  rw [hp] at r1 r2
  have hr := r2
  rcases r2.2 with ⟨e1, _⟩ | ⟨g1, cap, cur, e1, _, _, h1, _⟩
  · simp at e1
  · simp at e1
    obtain ⟨rfl, rfl⟩ := e1
    have := World.ownsRow.cells hr (g := g1) rfl 0 (.int .i64 v) rfl
    rw [add_none] at this
    exact ⟨g1, c, r1, by have : 1 ≤ c := h1; omega, this, h.later r3, (h.later r3).six⟩
theorem Hd.told (h : Hd w W s gv gl gd q κ a N) (hN : N ≤ 1000) {ks : List K3} (hk : Kof a ks) :
    Calls Tryz.prog 28 #[.pointer (some ⟨s, 0, none⟩)] W fun e w' => ∃ y c, e = .returned (.slice y ks.length c) ∧ Hid (Hd w w' s gv gl gd q κ a N) ∧ Six w' s gv gl gd q κ := by
  refine Calls.mono (h.h.told hN hk) ?_
  rintro e w' ⟨y, c, r1, _, r3⟩
  exact ⟨y, c, r1, h.later r3, (h.later r3).six⟩
end

set_option maxRecDepth 100000 in
theorem n_cells (w : World) : Calls Tryz.prog 28 #[.pointer none] w fun e w' => e = .returned (.slice none 0 0) ∧ Below w.heap.size w w' := by
  go_enter Tryz.func28, Tryz.ntmps28
  go_wp2
  go_ret
  first | exact ⟨rfl, Below.refl _ _⟩ | exact ⟨rfl, below_alloc _ _ _ (Nat.le_refl _)⟩

set_option maxRecDepth 100000 in
theorem eq_nil {w w1 : World} {s gv gl gd N : Nat} {E : Nat → Prop} (h : Sh w w1 s gv gl gd E ab0 N) (hN : N ≤ 1000) : Calls Tryz.prog 39 #[.pointer (some ⟨s, 0, none⟩), .pointer none] w1 fun e w' => e = .returned (.bool true) ∧ Below w.heap.size w w' := by
  have HC := hide (stateCells _ s gv gl gd N ab0 w1 h.st hN h.ll h.dl)
  have HB := hide h.b
  clear h
  go_enter Tryz.func39, Tryz.ntmps39
  go_wp2_with fail
  refine HC.out.mono ?_
  rintro e w3 ⟨v, xs, ks, rfl, k1, _, k3, k4, k5⟩
  have e0 : ks = [] := rise_eq k1.1 List.Pairwise.nil (fun k => by rw [k1.2 k]; simp [ab0])
  subst e0
  have e1 : xs = [] := by simpa using k3
  subst e1
  have HB3 := hide (HB.out.trans (k5.mono HB.out.size))
  have HO := hide (k4.mono (Nat.zero_le _))
  clear k1 k3 k4 k5 HC HB
  go_wp2_with fail
  refine (n_cells w3).mono ?_
  rintro e w2 ⟨rfl, hb2⟩
  have HB2 := hide (HB3.out.trans (hb2.mono HB3.out.size))
  have : DecidableEq Cl := fun _ _ => Classical.propDecidable _
  have HQ := hide (equalCr v (.slice none 0 0) [] [] w2 (HO.out.later hb2) (OwnR.nil _ _) (fun x hx => by simp at hx) (fun x hx => by simp at hx) (by simp) (by simp))
  clear hb2 HB3 HO
  go_wp2_with fail
  refine HQ.out.mono ?_
  rintro e w4 ⟨rfl, hb4⟩
  have HB4 := hide (HB2.out.trans (hb4.mono HB2.out.size))
  clear hb4 HB2 HQ
  go_wp2
  go_ret
  exact ⟨by simp, HB4.out⟩

set_option maxRecDepth 100000 in
set_option maxHeartbeats 8000000 in
theorem walk (a b c v f : Int) (w : World) (_wa : (Lit.int .i64 a).wf = true) (_wb : (Lit.int .i64 b).wf = true) (_wc : (Lit.int .i64 c).wf = true) (_wv : (Lit.int .i64 v).wf = true) (_wf : (Lit.int .i64 f).wf = true) :
    Calls Tryz.prog 8 #[.int .i64 a, .int .i64 b, .int .i64 c, .int .i64 v, .int .i64 f] w fun e w' => e = .returned (.bool true) ∧ Below w.heap.size w w' := by
  obtain ⟨r, i, er, br, br', sr, hi⟩ := len8 f
  clear _wa _wb _wc _wv _wf
  go_enter Tryz.func8, Tryz.ntmps8
  go_wp2_with fail
  refine (begun7_true _).mono ?_
  rintro e w1 ⟨rfl, hb1⟩
  go_wp2_with fail
  refine (key_any a b c _).mono ?_
  rintro e w2 ⟨rfl, hb2⟩
  have HKI := hide (key_in a b c)
  generalize keyF a b c = κ at *
  have hb3 := below_alloc w2 (k3O κ) w2.heap.size (Nat.le_refl _)
  have HB := hide ((hb1.trans (hb2.mono hb1.size)).trans (hb3.mono (Nat.le_trans hb1.size hb2.size)))
  have HQ := hide (And.intro (heap_alloc_new w2 (k3O κ)) (And.intro (Nat.le_trans hb1.size hb2.size) (show w2.heap.size < (w2.alloc (k3O κ)).heap.size by simp)))
  clear hb1 hb2 hb3
  unfold k3E
  go_wp2_with fail
  unfold k3O at HB HQ
  generalize w2.alloc (.cells #[.int .i64 κ.g, .int .i64 κ.n, .int .i64 κ.i] 28) = w3 at *
  generalize w2.heap.size = q at *
  refine (stateNew w3).mono ?_
  rintro e w4 ⟨rfl, rfl⟩
  have hSn := newSt_size w3
  have hqb := newSt_below w3
  have HH0 : Hid (Hd w (newSt w3) (w3.heap.size + 1 + 1 + 1) w3.heap.size (w3.heap.size + 1) (w3.heap.size + 1 + 1) q κ ab0 0) :=
    ⟨(Sh.new w w3 HB.out).more (fun j hj => by subst hj; exact ⟨Or.inr HQ.out.2.2, by have := HQ.out.2.2; omega⟩), boxed_old HQ.out.1 hqb, HQ.out.2.2, HQ.out.2.1⟩
  clear hSn hqb HB HQ
  generalize newSt w3 = w5 at *
  generalize w3.heap.size + 1 + 1 + 1 = s at *
  generalize w3.heap.size + 1 + 1 = gd at *
  generalize w3.heap.size + 1 = gl at *
  generalize w3.heap.size = gv at *
  obtain ⟨c0, c1, c2, x0, x1, x2⟩ := HH0.out.six
  have HM1 : Hid ((([cSet κ v, cPush κ v, cPut κ i v] : List Mq).map Mq.m).all mayB = true) := by
    have := HKI.out
    have h8 : (i : Int) < 8 := by omega
    show _ = _
    simp [cSet, cPush, cPut, Mq.m, mayB, kindB, fieldB, hasF, inR, valueB, hasV, this, h8]
  simp only [sr]
  clear er br br' sr
  have s1 : Hid (∀ W : World, Below w5.heap.size w5 W → Hd w W s gv gl gd q κ ab0 0) := fun W hW => HH0.out.later hW
  have HC : Hid (Calls Tryz.prog 25 #[.pointer (some ⟨s, 0, none⟩), .slice (some ⟨w5.heap.size, 0, none⟩) 3 3] (w5.alloc (.cells #[.int .i64 1, .int .i64 κ.g, .int .i64 κ.n, .int .i64 κ.i, .int .i64 0, .int .i64 v, .int .i64 3, .int .i64 κ.g, .int .i64 κ.n, .int .i64 κ.i, .int .i64 0, .int .i64 v, .int .i64 5, .int .i64 κ.g, .int .i64 κ.n, .int .i64 κ.i, .int .i64 (i : Int), .int .i64 v] 61)) fun e w' => e = .returned (.int .i64 0) ∧ Hid (Hd w w' s gv gl gd q κ (aT κ i v true) 3)) := by
    have := HH0.out.done (.cells #[.int .i64 1, .int .i64 κ.g, .int .i64 κ.n, .int .i64 κ.i, .int .i64 0, .int .i64 v, .int .i64 3, .int .i64 κ.g, .int .i64 κ.n, .int .i64 κ.i, .int .i64 0, .int .i64 v, .int .i64 5, .int .i64 κ.g, .int .i64 κ.n, .int .i64 κ.i, .int .i64 (i : Int), .int .i64 v] 61) 3 3 [cSet κ v, cPush κ v, cPut κ i v] (ms3 (cSet κ v).m (cPush κ v).m (cPut κ i v).m (heap_alloc_new w5 _)) (by omega) HM1.out rfl
    rw [run_1] at this
    exact this
  clear HM1 HH0 s1
  go_wp2_with fail
  refine HC.out.mono ?_
  rintro e w6 ⟨rfl, H6⟩
  clear HC c0 c1 c2 x0 x1 x2
  have s0 : w6.drew.cell? ⟨s, 0, none⟩ = some (.pointer (some ⟨gv, 0, none⟩)) ∧ w6.drew.cell? ⟨s, 1, none⟩ = some (.pointer (some ⟨gl, 0, none⟩)) ∧ w6.drew.cell? ⟨s, 2, none⟩ = some (.pointer (some ⟨gd, 0, none⟩)) ∧ w6.drew.cell? ⟨q, 0, none⟩ = some (.int .i64 κ.g) ∧ w6.drew.cell? ⟨q, 1, none⟩ = some (.int .i64 κ.n) ∧ w6.drew.cell? ⟨q, 2, none⟩ = some (.int .i64 κ.i) := H6.out.six
  have HV : Hid (Calls Tryz.prog 40 #[.pointer (some ⟨gv, 0, none⟩), .agg #[.int .i64 κ.g, .int .i64 κ.n, .int .i64 κ.i]] w6.drew fun e w' => e = .returned (.tuple #[.int .i64 v, .bool true]) ∧ Hid (Hd w w' s gv gl gd q κ (aT κ i v true) 3) ∧ (w'.cell? ⟨s, 0, none⟩ = some (.pointer (some ⟨gv, 0, none⟩)) ∧ w'.cell? ⟨s, 1, none⟩ = some (.pointer (some ⟨gl, 0, none⟩)) ∧ w'.cell? ⟨s, 2, none⟩ = some (.pointer (some ⟨gd, 0, none⟩)) ∧ w'.cell? ⟨q, 0, none⟩ = some (.int .i64 κ.g) ∧ w'.cell? ⟨q, 1, none⟩ = some (.int .i64 κ.n) ∧ w'.cell? ⟨q, 2, none⟩ = some (.int .i64 κ.i))) := by
    have := (H6.out.later (Below.refl _ _).drew).value
    have e : (aT κ i v true).V κ = some v := by simp [aT]
    rw [e] at this
    exact this
  go_wp2
  go_region_held3 (fun w' => w'.cell? ⟨s, 0, none⟩ = some (.pointer (some ⟨gv, 0, none⟩)) ∧ w'.cell? ⟨s, 1, none⟩ = some (.pointer (some ⟨gl, 0, none⟩)) ∧ w'.cell? ⟨s, 2, none⟩ = some (.pointer (some ⟨gd, 0, none⟩)) ∧ w'.cell? ⟨q, 0, none⟩ = some (.int .i64 κ.g) ∧ w'.cell? ⟨q, 1, none⟩ = some (.int .i64 κ.n) ∧ w'.cell? ⟨q, 2, none⟩ = some (.int .i64 κ.i)) (first | with_reducible exact s0 | with_reducible exact s1) ((go_at_call 40; with_reducible refine HV.out.mono ?_; rintro e w7 ⟨rfl, H7, s1⟩))
  all_goals
    clear HV H6 s0
    have s0 : w7.drew.cell? ⟨s, 0, none⟩ = some (.pointer (some ⟨gv, 0, none⟩)) ∧ w7.drew.cell? ⟨s, 1, none⟩ = some (.pointer (some ⟨gl, 0, none⟩)) ∧ w7.drew.cell? ⟨s, 2, none⟩ = some (.pointer (some ⟨gd, 0, none⟩)) ∧ w7.drew.cell? ⟨q, 0, none⟩ = some (.int .i64 κ.g) ∧ w7.drew.cell? ⟨q, 1, none⟩ = some (.int .i64 κ.n) ∧ w7.drew.cell? ⟨q, 2, none⟩ = some (.int .i64 κ.i) := s1
    have HF : Hid (Calls Tryz.prog 21 #[.pointer (some ⟨gd, 0, none⟩), .agg #[.int .i64 κ.g, .int .i64 κ.n, .int .i64 κ.i], .int .i64 (i : Int)] w7.drew fun e w' => e = .returned (.tuple #[.int .i64 v, .bool true]) ∧ Hid (Hd w w' s gv gl gd q κ (aT κ i v true) 3) ∧ (w'.cell? ⟨s, 0, none⟩ = some (.pointer (some ⟨gv, 0, none⟩)) ∧ w'.cell? ⟨s, 1, none⟩ = some (.pointer (some ⟨gl, 0, none⟩)) ∧ w'.cell? ⟨s, 2, none⟩ = some (.pointer (some ⟨gd, 0, none⟩)) ∧ w'.cell? ⟨q, 0, none⟩ = some (.int .i64 κ.g) ∧ w'.cell? ⟨q, 1, none⟩ = some (.int .i64 κ.n) ∧ w'.cell? ⟨q, 2, none⟩ = some (.int .i64 κ.i))) := by
      have := (H7.out.later (Below.refl _ _).drew).field (i : Int)
      have e : fldZ ((aT κ i v true).D κ) (i : Int) = some v := by simp [aT, fld_one]
      rw [e] at this
      exact this
    clear s1
    go_wp2
    go_region_held3 (fun w' => w'.cell? ⟨s, 0, none⟩ = some (.pointer (some ⟨gv, 0, none⟩)) ∧ w'.cell? ⟨s, 1, none⟩ = some (.pointer (some ⟨gl, 0, none⟩)) ∧ w'.cell? ⟨s, 2, none⟩ = some (.pointer (some ⟨gd, 0, none⟩)) ∧ w'.cell? ⟨q, 0, none⟩ = some (.int .i64 κ.g) ∧ w'.cell? ⟨q, 1, none⟩ = some (.int .i64 κ.n) ∧ w'.cell? ⟨q, 2, none⟩ = some (.int .i64 κ.i)) (first | with_reducible exact s0 | with_reducible exact s1) ((go_at_call 21; with_reducible refine HF.out.mono ?_; rintro e w8 ⟨rfl, H8, s1⟩))
    all_goals
      clear HF H7 s0
      have s0 : w8.drew.cell? ⟨s, 0, none⟩ = some (.pointer (some ⟨gv, 0, none⟩)) ∧ w8.drew.cell? ⟨s, 1, none⟩ = some (.pointer (some ⟨gl, 0, none⟩)) ∧ w8.drew.cell? ⟨s, 2, none⟩ = some (.pointer (some ⟨gd, 0, none⟩)) ∧ w8.drew.cell? ⟨q, 0, none⟩ = some (.int .i64 κ.g) ∧ w8.drew.cell? ⟨q, 1, none⟩ = some (.int .i64 κ.n) ∧ w8.drew.cell? ⟨q, 2, none⟩ = some (.int .i64 κ.i) := s1
      have H8d : Hid (Hd w w8.drew s gv gl gd q κ (aT κ i v true) 3) := H8.out.later (Below.refl _ _).drew
      have HL : Hid (∀ W, Hid (Hd w W s gv gl gd q κ (aT κ i v true) 3) → Calls Tryz.prog 41 #[.pointer (some ⟨gl, 0, none⟩), .agg #[.int .i64 κ.g, .int .i64 κ.n, .int .i64 κ.i]] W fun e w' => ∃ y c, e = .returned (.slice (some ⟨y, 0, none⟩) 1 c) ∧ 0 < c ∧ w'.cell? ⟨y, 0, none⟩ = some (.int .i64 v) ∧ Hid (Hd w w' s gv gl gd q κ (aT κ i v true) 3) ∧ (w'.cell? ⟨s, 0, none⟩ = some (.pointer (some ⟨gv, 0, none⟩)) ∧ w'.cell? ⟨s, 1, none⟩ = some (.pointer (some ⟨gl, 0, none⟩)) ∧ w'.cell? ⟨s, 2, none⟩ = some (.pointer (some ⟨gd, 0, none⟩)) ∧ w'.cell? ⟨q, 0, none⟩ = some (.int .i64 κ.g) ∧ w'.cell? ⟨q, 1, none⟩ = some (.int .i64 κ.n) ∧ w'.cell? ⟨q, 2, none⟩ = some (.int .i64 κ.i))) := fun W hW => hW.out.list v (by simp [aT])
      have HT : Hid (∀ W, Hid (Hd w W s gv gl gd q κ (aT κ i v true) 3) → Calls Tryz.prog 28 #[.pointer (some ⟨s, 0, none⟩)] W fun e w' => ∃ y c, e = .returned (.slice y 1 c) ∧ Hid (Hd w w' s gv gl gd q κ (aT κ i v true) 3) ∧ (w'.cell? ⟨s, 0, none⟩ = some (.pointer (some ⟨gv, 0, none⟩)) ∧ w'.cell? ⟨s, 1, none⟩ = some (.pointer (some ⟨gl, 0, none⟩)) ∧ w'.cell? ⟨s, 2, none⟩ = some (.pointer (some ⟨gd, 0, none⟩)) ∧ w'.cell? ⟨q, 0, none⟩ = some (.int .i64 κ.g) ∧ w'.cell? ⟨q, 1, none⟩ = some (.int .i64 κ.n) ∧ w'.cell? ⟨q, 2, none⟩ = some (.int .i64 κ.i))) := fun W hW => hW.out.told (by omega) (kof_one κ i v true)
      clear s1 H8
      go_wp2
      refine wp_region_held_drew (S := (fun w' => w'.cell? ⟨s, 0, none⟩ = some (.pointer (some ⟨gv, 0, none⟩)) ∧ w'.cell? ⟨s, 1, none⟩ = some (.pointer (some ⟨gl, 0, none⟩)) ∧ w'.cell? ⟨s, 2, none⟩ = some (.pointer (some ⟨gd, 0, none⟩)) ∧ w'.cell? ⟨q, 0, none⟩ = some (.int .i64 κ.g) ∧ w'.cell? ⟨q, 1, none⟩ = some (.int .i64 κ.n) ∧ w'.cell? ⟨q, 2, none⟩ = some (.int .i64 κ.i))) (by kernel_rfl) (by with_reducible exact s0) (fun hHeld => ?_)
      refine wpAnyH_take (i := 0) (oi := { dst := some 65, op := Op.move (Operand.tmp 16), type := 4, pos := "more.go:117", after := #[], guard := none }) (v := ?_) rfl (by kernel_rfl) (by kernel_rfl) (by kernel_rfl) (fun _ _ _ h => h) (Or.inl ⟨by rfl, ?_⟩) (by assumption) ?_
      rotate_left
      · intro w hSw; (try dsimp only at hSw); go_simp; try with_reducible rfl
      try simp only [Act.put, List.setIfInBounds_toArray, List.set_cons_zero, List.set_cons_succ]
      refine wpAnyH_take (i := 1) (oi := { dst := some 66, op := Op.unOp UnOp.not 4 (Operand.tmp 65), type := 4, pos := "more.go:117", after := #[{ on := 0, ground := Ground.data }], guard := none }) (v := ?_) rfl (by kernel_rfl) (by kernel_rfl) (by kernel_rfl) (fun _ _ _ h => h) (Or.inl ⟨by rfl, ?_⟩) (by assumption) ?_
      rotate_left
      · intro w hSw; (try dsimp only at hSw); go_simp; try with_reducible rfl
      try simp only [Act.put, List.setIfInBounds_toArray, List.set_cons_zero, List.set_cons_succ]
      refine wpAnyH_take (i := 2) (oi := { dst := some 67, op := Op.move (Operand.tmp 66), type := 4, pos := "more.go:117", after := #[{ on := 1, ground := Ground.data }], guard := none }) (v := ?_) rfl (by kernel_rfl) (by kernel_rfl) (by kernel_rfl) (fun _ _ _ h => h) (Or.inl ⟨by rfl, ?_⟩) (by assumption) ?_
      rotate_left
      · intro w hSw; (try dsimp only at hSw); go_simp; try with_reducible rfl
      try simp only [Act.put, List.setIfInBounds_toArray, List.set_cons_zero, List.set_cons_succ]
      refine wpAnyH_take (i := 3) (oi := { dst := some 68, op := Op.move (Operand.tmp 15), type := 2, pos := "more.go:117", after := #[{ on := 2, ground := Ground.guard }], guard := some (2, false) }) (v := ?_) rfl (by kernel_rfl) (by kernel_rfl) (by kernel_rfl) (fun _ _ _ h => h) (Or.inl ⟨by rfl, ?_⟩) (by assumption) ?_
      rotate_left
      · intro w hSw; (try dsimp only at hSw); go_simp; try with_reducible rfl
      try simp only [Act.put, List.setIfInBounds_toArray, List.set_cons_zero, List.set_cons_succ]
      refine wpAnyH_take (i := 4) (oi := { dst := some 69, op := Op.move (Operand.tmp 3), type := 2, pos := "more.go:117", after := #[{ on := 2, ground := Ground.guard }], guard := some (2, false) }) (v := ?_) rfl (by kernel_rfl) (by kernel_rfl) (by kernel_rfl) (fun _ _ _ h => h) (Or.inl ⟨by rfl, ?_⟩) (by assumption) ?_
      rotate_left
      · intro w hSw; (try dsimp only at hSw); go_simp; try with_reducible rfl
      try simp only [Act.put, List.setIfInBounds_toArray, List.set_cons_zero, List.set_cons_succ]
      refine wpAnyH_take (i := 5) (oi := { dst := some 70, op := Op.binOp BinOp.neq 2 (Operand.tmp 68) (Operand.tmp 69) 2, type := 4, pos := "more.go:117", after := #[{ on := 3, ground := Ground.data }, { on := 4, ground := Ground.data }, { on := 2, ground := Ground.guard }], guard := some (2, false) }) (v := ?_) rfl (by kernel_rfl) (by kernel_rfl) (by kernel_rfl) (fun _ _ _ h => h) (Or.inl ⟨by rfl, ?_⟩) (by assumption) ?_
      rotate_left
      · intro w hSw; (try dsimp only at hSw); go_simp; try with_reducible rfl
      try simp only [Act.put, List.setIfInBounds_toArray, List.set_cons_zero, List.set_cons_succ]
      refine wpAnyH_take (i := 6) (oi := { dst := some 71, op := Op.pick (Operand.tmp 67) (Operand.const (Value.bool true)) (Operand.tmp 70), type := 4, pos := "more.go:117", after := #[{ on := 2, ground := Ground.data }, { on := 5, ground := Ground.data }], guard := none }) (v := ?_) rfl (by kernel_rfl) (by kernel_rfl) (by kernel_rfl) (fun _ _ _ h => h) (Or.inl ⟨by rfl, ?_⟩) (by assumption) ?_
      rotate_left
      · intro w hSw; (try dsimp only at hSw); go_simp; try with_reducible rfl
      try simp only [Act.put, List.setIfInBounds_toArray, List.set_cons_zero, List.set_cons_succ]
      refine wpAnyH_take (i := 7) (oi := { dst := some 72, op := Op.move (Operand.tmp 71), type := 4, pos := "more.go:117", after := #[{ on := 6, ground := Ground.data }, { on := 2, ground := Ground.chain }], guard := none }) (v := ?_) rfl (by kernel_rfl) (by kernel_rfl) (by kernel_rfl) (fun _ _ _ h => h) (Or.inl ⟨by rfl, ?_⟩) (by assumption) ?_
      rotate_left
      · intro w hSw; (try dsimp only at hSw); go_simp; try with_reducible rfl
      try simp only [Act.put, List.setIfInBounds_toArray, List.set_cons_zero, List.set_cons_succ]
      refine wpAnyH_take (i := 8) (oi := { dst := some 73, op := Op.move (Operand.tmp 13), type := 47, pos := "more.go:117", after := #[{ on := 7, ground := Ground.guard }], guard := some (7, false) }) (v := ?_) rfl (by kernel_rfl) (by kernel_rfl) (by kernel_rfl) (fun _ _ _ h => h) (Or.inl ⟨by rfl, ?_⟩) (by assumption) ?_
      rotate_left
      · intro w hSw; (try dsimp only at hSw); go_simp; try with_reducible rfl
      try simp only [Act.put, List.setIfInBounds_toArray, List.set_cons_zero, List.set_cons_succ]
      refine wpAnyH_take (i := 9) (oi := { dst := some 74, op := Op.nilCheck (Operand.tmp 73), type := 0, pos := "more.go:117", after := #[{ on := 8, ground := Ground.data }, { on := 7, ground := Ground.guard }], guard := some (7, false) }) (v := ?_) rfl (by kernel_rfl) (by kernel_rfl) (by kernel_rfl) (fun _ _ _ h => h) (Or.inl ⟨by rfl, ?_⟩) (by assumption) ?_
      rotate_left
      · intro w hSw; (try dsimp only at hSw); go_simp; try with_reducible rfl
      try simp only [Act.put, List.setIfInBounds_toArray, List.set_cons_zero, List.set_cons_succ]
      refine wpAnyH_take (i := 10) (oi := { dst := some 75, op := Op.fieldAddr 66 (Operand.tmp 74) 1, type := 0, pos := "more.go:117", after := #[{ on := 9, ground := Ground.data }, { on := 7, ground := Ground.guard }], guard := some (7, false) }) (v := ?_) rfl (by kernel_rfl) (by kernel_rfl) (by kernel_rfl) (fun _ _ _ h => h) (Or.inl ⟨by rfl, ?_⟩) (by assumption) ?_
      rotate_left
      · intro w hSw; (try dsimp only at hSw); go_simp; try with_reducible rfl
      try simp only [Act.put, List.setIfInBounds_toArray, List.set_cons_zero, List.set_cons_succ]
      refine wpAnyH_take (i := 11) (oi := { dst := some 76, op := Op.load 64 (Operand.tmp 75), type := 64, pos := "more.go:117", after := #[{ on := 10, ground := Ground.data }, { on := 7, ground := Ground.guard }], guard := some (7, false) }) (v := ?_) rfl (by kernel_rfl) (by kernel_rfl) (by kernel_rfl) (fun _ _ _ h => h) (Or.inl ⟨by rfl, ?_⟩) (by assumption) ?_
      rotate_left
      · intro w hSw; (try dsimp only at hSw); go_simp; try with_reducible rfl
      try simp only [Act.put, List.setIfInBounds_toArray, List.set_cons_zero, List.set_cons_succ]
      refine wpAnyH_take (i := 12) (oi := { dst := some 77, op := Op.load 28 (Operand.tmp 12), type := 28, pos := "more.go:117", after := #[{ on := 7, ground := Ground.guard }], guard := some (7, false) }) (v := ?_) rfl (by kernel_rfl) (by kernel_rfl) (by kernel_rfl) (fun _ _ _ h => h) (Or.inl ⟨by rfl, ?_⟩) (by assumption) ?_
      rotate_left
      · intro w hSw; (try dsimp only at hSw); go_simp; try with_reducible rfl
      try simp only [Act.put, List.setIfInBounds_toArray, List.set_cons_zero, List.set_cons_succ]
      refine wpAnyH_ready (rs := [13]) (by kernel_rfl) (by simp) ?_
      refine AllReadyH.cons (o := { dst := some 78, op := Op.call { callee := Callee.value (Operand.func 41), args := #[Operand.tmp 76, Operand.tmp 77], argTypes := #[64, 28] }, type := 29, pos := "more.go:117", after := #[{ on := 11, ground := Ground.data }, { on := 12, ground := Ground.data }, { on := 7, ground := Ground.chain }, { on := 7, ground := Ground.guard }], guard := some (7, false) }) rfl (fun K hK => ?_) AllReadyH.nil
      go_simp
      go_at_call 41; with_reducible refine (HL.out _ H8d).mono ?_; rintro e w9 ⟨y9, c9, rfl, p9, r9, H9, s1⟩
      go_wp2_with fail
      (try clear hHeld)
      refine hK.out _ _ (by with_reducible exact s1) (fun hHeld => ?_)
      clear hK K
      try simp only [Act.put, List.setIfInBounds_toArray, List.set_cons_zero, List.set_cons_succ]
      refine wpAnyH_take (i := 14) (oi := { dst := some 79, op := Op.call { callee := Callee.builtin Builtin.len, args := #[Operand.tmp 78], argTypes := #[29] }, type := 3, pos := "more.go:117", after := #[{ on := 13, ground := Ground.data }, { on := 7, ground := Ground.guard }], guard := some (7, false) }) (v := ?_) rfl (by kernel_rfl) (by kernel_rfl) (by kernel_rfl) (fun _ _ _ h => h) (Or.inl ⟨by rfl, ?_⟩) (by assumption) ?_
      rotate_left
      · intro w hSw; (try dsimp only at hSw); go_simp; try with_reducible rfl
      try simp only [Act.put, List.setIfInBounds_toArray, List.set_cons_zero, List.set_cons_succ]
      refine wpAnyH_take (i := 15) (oi := { dst := some 80, op := Op.binOp BinOp.neq 3 (Operand.tmp 79) (Operand.const (Value.int IntKind.i64 1)) 3, type := 4, pos := "more.go:117", after := #[{ on := 14, ground := Ground.data }, { on := 7, ground := Ground.guard }], guard := some (7, false) }) (v := ?_) rfl (by kernel_rfl) (by kernel_rfl) (by kernel_rfl) (fun _ _ _ h => h) (Or.inl ⟨by rfl, ?_⟩) (by assumption) ?_
      rotate_left
      · intro w hSw; (try dsimp only at hSw); go_simp; try with_reducible rfl
      try simp only [Act.put, List.setIfInBounds_toArray, List.set_cons_zero, List.set_cons_succ]
      refine wpAnyH_take (i := 16) (oi := { dst := some 81, op := Op.pick (Operand.tmp 72) (Operand.const (Value.bool true)) (Operand.tmp 80), type := 4, pos := "more.go:117", after := #[{ on := 7, ground := Ground.data }, { on := 15, ground := Ground.data }], guard := none }) (v := ?_) rfl (by kernel_rfl) (by kernel_rfl) (by kernel_rfl) (fun _ _ _ h => h) (Or.inl ⟨by rfl, ?_⟩) (by assumption) ?_
      rotate_left
      · intro w hSw; (try dsimp only at hSw); go_simp; try with_reducible rfl
      try simp only [Act.put, List.setIfInBounds_toArray, List.set_cons_zero, List.set_cons_succ]
      refine wpAnyH_take (i := 17) (oi := { dst := some 82, op := Op.move (Operand.tmp 81), type := 4, pos := "more.go:117", after := #[{ on := 16, ground := Ground.data }, { on := 13, ground := Ground.chain }], guard := none }) (v := ?_) rfl (by kernel_rfl) (by kernel_rfl) (by kernel_rfl) (fun _ _ _ h => h) (Or.inl ⟨by rfl, ?_⟩) (by assumption) ?_
      rotate_left
      · intro w hSw; (try dsimp only at hSw); go_simp; try with_reducible rfl
      try simp only [Act.put, List.setIfInBounds_toArray, List.set_cons_zero, List.set_cons_succ]
      refine wpAnyH_take (i := 18) (oi := { dst := some 83, op := Op.move (Operand.tmp 13), type := 47, pos := "more.go:117", after := #[{ on := 17, ground := Ground.guard }], guard := some (17, false) }) (v := ?_) rfl (by kernel_rfl) (by kernel_rfl) (by kernel_rfl) (fun _ _ _ h => h) (Or.inl ⟨by rfl, ?_⟩) (by assumption) ?_
      rotate_left
      · intro w hSw; (try dsimp only at hSw); go_simp; try with_reducible rfl
      try simp only [Act.put, List.setIfInBounds_toArray, List.set_cons_zero, List.set_cons_succ]
      refine wpAnyH_take (i := 19) (oi := { dst := some 84, op := Op.nilCheck (Operand.tmp 83), type := 0, pos := "more.go:117", after := #[{ on := 18, ground := Ground.data }, { on := 17, ground := Ground.guard }], guard := some (17, false) }) (v := ?_) rfl (by kernel_rfl) (by kernel_rfl) (by kernel_rfl) (fun _ _ _ h => h) (Or.inl ⟨by rfl, ?_⟩) (by assumption) ?_
      rotate_left
      · intro w hSw; (try dsimp only at hSw); go_simp; try with_reducible rfl
      try simp only [Act.put, List.setIfInBounds_toArray, List.set_cons_zero, List.set_cons_succ]
      refine wpAnyH_take (i := 20) (oi := { dst := some 85, op := Op.fieldAddr 66 (Operand.tmp 84) 1, type := 0, pos := "more.go:117", after := #[{ on := 19, ground := Ground.data }, { on := 17, ground := Ground.guard }], guard := some (17, false) }) (v := ?_) rfl (by kernel_rfl) (by kernel_rfl) (by kernel_rfl) (fun _ _ _ h => h) (Or.inl ⟨by rfl, ?_⟩) (by assumption) ?_
      rotate_left
      · intro w hSw; (try dsimp only at hSw); go_simp; try with_reducible rfl
      try simp only [Act.put, List.setIfInBounds_toArray, List.set_cons_zero, List.set_cons_succ]
      refine wpAnyH_take (i := 21) (oi := { dst := some 86, op := Op.load 64 (Operand.tmp 85), type := 64, pos := "more.go:117", after := #[{ on := 20, ground := Ground.data }, { on := 17, ground := Ground.guard }], guard := some (17, false) }) (v := ?_) rfl (by kernel_rfl) (by kernel_rfl) (by kernel_rfl) (fun _ _ _ h => h) (Or.inl ⟨by rfl, ?_⟩) (by assumption) ?_
      rotate_left
      · intro w hSw; (try dsimp only at hSw); go_simp; try with_reducible rfl
      try simp only [Act.put, List.setIfInBounds_toArray, List.set_cons_zero, List.set_cons_succ]
      refine wpAnyH_take (i := 22) (oi := { dst := some 87, op := Op.load 28 (Operand.tmp 12), type := 28, pos := "more.go:117", after := #[{ on := 17, ground := Ground.guard }], guard := some (17, false) }) (v := ?_) rfl (by kernel_rfl) (by kernel_rfl) (by kernel_rfl) (fun _ _ _ h => h) (Or.inl ⟨by rfl, ?_⟩) (by assumption) ?_
      rotate_left
      · intro w hSw; (try dsimp only at hSw); go_simp; try with_reducible rfl
      try simp only [Act.put, List.setIfInBounds_toArray, List.set_cons_zero, List.set_cons_succ]
      refine wpAnyH_take (i := 26) (oi := { dst := some 91, op := Op.move (Operand.tmp 3), type := 2, pos := "more.go:117", after := #[{ on := 17, ground := Ground.guard }], guard := some (17, false) }) (v := ?_) rfl (by kernel_rfl) (by kernel_rfl) (by kernel_rfl) (fun _ _ _ h => h) (Or.inl ⟨by rfl, ?_⟩) (by assumption) ?_
      rotate_left
      · intro w hSw; (try dsimp only at hSw); go_simp; try with_reducible rfl
      try simp only [Act.put, List.setIfInBounds_toArray, List.set_cons_zero, List.set_cons_succ]
      refine wpAnyH_ready (rs := [23]) (by kernel_rfl) (by simp) ?_
      refine AllReadyH.cons (o := { dst := some 88, op := Op.call { callee := Callee.value (Operand.func 41), args := #[Operand.tmp 86, Operand.tmp 87], argTypes := #[64, 28] }, type := 29, pos := "more.go:117", after := #[{ on := 21, ground := Ground.data }, { on := 22, ground := Ground.data }, { on := 17, ground := Ground.chain }, { on := 17, ground := Ground.guard }], guard := some (17, false) }) rfl (fun K hK => ?_) AllReadyH.nil
      go_simp
      go_at_call 41; with_reducible refine (HL.out _ H9).mono ?_; rintro e wA ⟨yA, cA, rfl, pA, rA, HA, s2⟩
      go_wp2_with fail
      (try clear hHeld)
      refine hK.out _ _ (by with_reducible exact s2) (fun hHeld => ?_)
      clear hK K
      try simp only [Act.put, List.setIfInBounds_toArray, List.set_cons_zero, List.set_cons_succ]
      refine wpAnyH_take (i := 24) (oi := { dst := some 89, op := Op.indexAddr 29 (Operand.tmp 88) (Operand.const (Value.int IntKind.i64 0)), type := 0, pos := "more.go:117", after := #[{ on := 23, ground := Ground.data }, { on := 17, ground := Ground.guard }], guard := some (17, false) }) (v := ?_) rfl (by kernel_rfl) (by kernel_rfl) (by kernel_rfl) (fun _ _ _ h => h) (Or.inl ⟨by rfl, ?_⟩) (by assumption) ?_
      rotate_left
      · intro w hSw; (try dsimp only at hSw); go_simp; try with_reducible rfl
      try simp only [Act.put, List.setIfInBounds_toArray, List.set_cons_zero, List.set_cons_succ]
      refine wpAnyH_ready (rs := [25]) (by kernel_rfl) (by simp) ?_
      refine AllReadyH.cons (o := { dst := some 90, op := Op.load 2 (Operand.tmp 89), type := 2, pos := "more.go:117", after := #[{ on := 24, ground := Ground.data }, { on := 17, ground := Ground.guard }], guard := some (17, false) }) rfl (fun K hK => ?_) AllReadyH.nil
      go_simp
      (try clear hHeld)
      refine hK.out _ _ (by with_reducible exact s2) (fun hHeld => ?_)
      clear hK K
      try simp only [Act.put, List.setIfInBounds_toArray, List.set_cons_zero, List.set_cons_succ]
      refine wpAnyH_take (i := 27) (oi := { dst := some 92, op := Op.binOp BinOp.neq 2 (Operand.tmp 90) (Operand.tmp 91) 2, type := 4, pos := "more.go:117", after := #[{ on := 25, ground := Ground.data }, { on := 26, ground := Ground.data }, { on := 17, ground := Ground.guard }], guard := some (17, false) }) (v := ?_) rfl (by kernel_rfl) (by kernel_rfl) (by kernel_rfl) (fun _ _ _ h => h) (Or.inl ⟨by rfl, ?_⟩) (by assumption) ?_
      rotate_left
      · intro w hSw; (try dsimp only at hSw); go_simp; try with_reducible rfl
      try simp only [Act.put, List.setIfInBounds_toArray, List.set_cons_zero, List.set_cons_succ]
      refine wpAnyH_take (i := 28) (oi := { dst := some 93, op := Op.pick (Operand.tmp 82) (Operand.const (Value.bool true)) (Operand.tmp 92), type := 4, pos := "more.go:117", after := #[{ on := 17, ground := Ground.data }, { on := 27, ground := Ground.data }], guard := none }) (v := ?_) rfl (by kernel_rfl) (by kernel_rfl) (by kernel_rfl) (fun _ _ _ h => h) (Or.inl ⟨by rfl, ?_⟩) (by assumption) ?_
      rotate_left
      · intro w hSw; (try dsimp only at hSw); go_simp; try with_reducible rfl
      try simp only [Act.put, List.setIfInBounds_toArray, List.set_cons_zero, List.set_cons_succ]
      refine wpAnyH_take (i := 29) (oi := { dst := some 94, op := Op.move (Operand.tmp 93), type := 4, pos := "more.go:117", after := #[{ on := 28, ground := Ground.data }, { on := 23, ground := Ground.chain }], guard := none }) (v := ?_) rfl (by kernel_rfl) (by kernel_rfl) (by kernel_rfl) (fun _ _ _ h => h) (Or.inl ⟨by rfl, ?_⟩) (by assumption) ?_
      rotate_left
      · intro w hSw; (try dsimp only at hSw); go_simp; try with_reducible rfl
      try simp only [Act.put, List.setIfInBounds_toArray, List.set_cons_zero, List.set_cons_succ]
      refine wpAnyH_take (i := 30) (oi := { dst := some 95, op := Op.move (Operand.tmp 18), type := 4, pos := "more.go:117", after := #[{ on := 29, ground := Ground.guard }], guard := some (29, false) }) (v := ?_) rfl (by kernel_rfl) (by kernel_rfl) (by kernel_rfl) (fun _ _ _ h => h) (Or.inl ⟨by rfl, ?_⟩) (by assumption) ?_
      rotate_left
      · intro w hSw; (try dsimp only at hSw); go_simp; try with_reducible rfl
      try simp only [Act.put, List.setIfInBounds_toArray, List.set_cons_zero, List.set_cons_succ]
      refine wpAnyH_take (i := 31) (oi := { dst := some 96, op := Op.unOp UnOp.not 4 (Operand.tmp 95), type := 4, pos := "more.go:117", after := #[{ on := 30, ground := Ground.data }, { on := 29, ground := Ground.guard }], guard := some (29, false) }) (v := ?_) rfl (by kernel_rfl) (by kernel_rfl) (by kernel_rfl) (fun _ _ _ h => h) (Or.inl ⟨by rfl, ?_⟩) (by assumption) ?_
      rotate_left
      · intro w hSw; (try dsimp only at hSw); go_simp; try with_reducible rfl
      try simp only [Act.put, List.setIfInBounds_toArray, List.set_cons_zero, List.set_cons_succ]
      refine wpAnyH_take (i := 32) (oi := { dst := some 97, op := Op.pick (Operand.tmp 94) (Operand.const (Value.bool true)) (Operand.tmp 96), type := 4, pos := "more.go:117", after := #[{ on := 29, ground := Ground.data }, { on := 31, ground := Ground.data }], guard := none }) (v := ?_) rfl (by kernel_rfl) (by kernel_rfl) (by kernel_rfl) (fun _ _ _ h => h) (Or.inl ⟨by rfl, ?_⟩) (by assumption) ?_
      rotate_left
      · intro w hSw; (try dsimp only at hSw); go_simp; try with_reducible rfl
      try simp only [Act.put, List.setIfInBounds_toArray, List.set_cons_zero, List.set_cons_succ]
      refine wpAnyH_take (i := 33) (oi := { dst := some 98, op := Op.move (Operand.tmp 97), type := 4, pos := "more.go:117", after := #[{ on := 32, ground := Ground.data }, { on := 29, ground := Ground.chain }], guard := none }) (v := ?_) rfl (by kernel_rfl) (by kernel_rfl) (by kernel_rfl) (fun _ _ _ h => h) (Or.inl ⟨by rfl, ?_⟩) (by assumption) ?_
      rotate_left
      · intro w hSw; (try dsimp only at hSw); go_simp; try with_reducible rfl
      try simp only [Act.put, List.setIfInBounds_toArray, List.set_cons_zero, List.set_cons_succ]
      refine wpAnyH_take (i := 34) (oi := { dst := some 99, op := Op.move (Operand.tmp 17), type := 2, pos := "more.go:117", after := #[{ on := 33, ground := Ground.guard }], guard := some (33, false) }) (v := ?_) rfl (by kernel_rfl) (by kernel_rfl) (by kernel_rfl) (fun _ _ _ h => h) (Or.inl ⟨by rfl, ?_⟩) (by assumption) ?_
      rotate_left
      · intro w hSw; (try dsimp only at hSw); go_simp; try with_reducible rfl
      try simp only [Act.put, List.setIfInBounds_toArray, List.set_cons_zero, List.set_cons_succ]
      refine wpAnyH_take (i := 35) (oi := { dst := some 100, op := Op.move (Operand.tmp 3), type := 2, pos := "more.go:117", after := #[{ on := 33, ground := Ground.guard }], guard := some (33, false) }) (v := ?_) rfl (by kernel_rfl) (by kernel_rfl) (by kernel_rfl) (fun _ _ _ h => h) (Or.inl ⟨by rfl, ?_⟩) (by assumption) ?_
      rotate_left
      · intro w hSw; (try dsimp only at hSw); go_simp; try with_reducible rfl
      try simp only [Act.put, List.setIfInBounds_toArray, List.set_cons_zero, List.set_cons_succ]
      refine wpAnyH_take (i := 36) (oi := { dst := some 101, op := Op.binOp BinOp.neq 2 (Operand.tmp 99) (Operand.tmp 100) 2, type := 4, pos := "more.go:117", after := #[{ on := 34, ground := Ground.data }, { on := 35, ground := Ground.data }, { on := 33, ground := Ground.guard }], guard := some (33, false) }) (v := ?_) rfl (by kernel_rfl) (by kernel_rfl) (by kernel_rfl) (fun _ _ _ h => h) (Or.inl ⟨by rfl, ?_⟩) (by assumption) ?_
      rotate_left
      · intro w hSw; (try dsimp only at hSw); go_simp; try with_reducible rfl
      try simp only [Act.put, List.setIfInBounds_toArray, List.set_cons_zero, List.set_cons_succ]
      refine wpAnyH_take (i := 37) (oi := { dst := some 102, op := Op.pick (Operand.tmp 98) (Operand.const (Value.bool true)) (Operand.tmp 101), type := 4, pos := "more.go:117", after := #[{ on := 33, ground := Ground.data }, { on := 36, ground := Ground.data }], guard := none }) (v := ?_) rfl (by kernel_rfl) (by kernel_rfl) (by kernel_rfl) (fun _ _ _ h => h) (Or.inl ⟨by rfl, ?_⟩) (by assumption) ?_
      rotate_left
      · intro w hSw; (try dsimp only at hSw); go_simp; try with_reducible rfl
      try simp only [Act.put, List.setIfInBounds_toArray, List.set_cons_zero, List.set_cons_succ]
      refine wpAnyH_take (i := 38) (oi := { dst := some 103, op := Op.move (Operand.tmp 102), type := 4, pos := "more.go:117", after := #[{ on := 37, ground := Ground.data }, { on := 33, ground := Ground.chain }], guard := none }) (v := ?_) rfl (by kernel_rfl) (by kernel_rfl) (by kernel_rfl) (fun _ _ _ h => h) (Or.inl ⟨by rfl, ?_⟩) (by assumption) ?_
      rotate_left
      · intro w hSw; (try dsimp only at hSw); go_simp; try with_reducible rfl
      try simp only [Act.put, List.setIfInBounds_toArray, List.set_cons_zero, List.set_cons_succ]
      refine wpAnyH_take (i := 39) (oi := { dst := some 104, op := Op.move (Operand.tmp 13), type := 47, pos := "more.go:117", after := #[{ on := 38, ground := Ground.guard }], guard := some (38, false) }) (v := ?_) rfl (by kernel_rfl) (by kernel_rfl) (by kernel_rfl) (fun _ _ _ h => h) (Or.inl ⟨by rfl, ?_⟩) (by assumption) ?_
      rotate_left
      · intro w hSw; (try dsimp only at hSw); go_simp; try with_reducible rfl
      try simp only [Act.put, List.setIfInBounds_toArray, List.set_cons_zero, List.set_cons_succ]
      refine wpAnyH_ready (rs := [40]) (by kernel_rfl) (by simp) ?_
      refine AllReadyH.cons (o := { dst := some 105, op := Op.call { callee := Callee.value (Operand.func 28), args := #[Operand.tmp 104], argTypes := #[47] }, type := 56, pos := "more.go:117", after := #[{ on := 39, ground := Ground.data }, { on := 38, ground := Ground.chain }, { on := 38, ground := Ground.guard }], guard := some (38, false) }) rfl (fun K hK => ?_) AllReadyH.nil
      go_simp
      go_at_call 28; with_reducible refine (HT.out _ HA).mono ?_; rintro e wB ⟨yB, cB, rfl, HB, s3⟩
      go_wp2_with fail
      (try clear hHeld)
      refine hK.out _ _ (by with_reducible exact s3) (fun hHeld => ?_)
      clear hK K
      try simp only [Act.put, List.setIfInBounds_toArray, List.set_cons_zero, List.set_cons_succ]
      refine wpAnyH_take (i := 41) (oi := { dst := some 106, op := Op.call { callee := Callee.builtin Builtin.len, args := #[Operand.tmp 105], argTypes := #[56] }, type := 3, pos := "more.go:117", after := #[{ on := 40, ground := Ground.data }, { on := 38, ground := Ground.guard }], guard := some (38, false) }) (v := ?_) rfl (by kernel_rfl) (by kernel_rfl) (by kernel_rfl) (fun _ _ _ h => h) (Or.inl ⟨by rfl, ?_⟩) (by assumption) ?_
      rotate_left
      · intro w hSw; (try dsimp only at hSw); go_simp; try with_reducible rfl
      try simp only [Act.put, List.setIfInBounds_toArray, List.set_cons_zero, List.set_cons_succ]
      refine wpAnyH_take (i := 42) (oi := { dst := some 107, op := Op.binOp BinOp.neq 3 (Operand.tmp 106) (Operand.const (Value.int IntKind.i64 1)) 3, type := 4, pos := "more.go:117", after := #[{ on := 41, ground := Ground.data }, { on := 38, ground := Ground.guard }], guard := some (38, false) }) (v := ?_) rfl (by kernel_rfl) (by kernel_rfl) (by kernel_rfl) (fun _ _ _ h => h) (Or.inl ⟨by rfl, ?_⟩) (by assumption) ?_
      rotate_left
      · intro w hSw; (try dsimp only at hSw); go_simp; try with_reducible rfl
      try simp only [Act.put, List.setIfInBounds_toArray, List.set_cons_zero, List.set_cons_succ]
      refine wpAnyH_take (i := 43) (oi := { dst := some 108, op := Op.pick (Operand.tmp 103) (Operand.const (Value.bool true)) (Operand.tmp 107), type := 4, pos := "more.go:117", after := #[{ on := 38, ground := Ground.data }, { on := 42, ground := Ground.data }], guard := none }) (v := ?_) rfl (by kernel_rfl) (by kernel_rfl) (by kernel_rfl) (fun _ _ _ h => h) (Or.inl ⟨by rfl, ?_⟩) (by assumption) ?_
      rotate_left
      · intro w hSw; (try dsimp only at hSw); go_simp; try with_reducible rfl
      try simp only [Act.put, List.setIfInBounds_toArray, List.set_cons_zero, List.set_cons_succ]
      refine wpAnyH_done (by kernel_rfl) ?_ _
      all_goals
        clear HL HT H8d H9 HA s0 s1 s2 r9 rA p9 pA
        obtain ⟨d0, d1, d2, x0, x1, x2⟩ := s3
        have HM1 : Hid ((([cDel κ] : List Mq).map Mq.m).all mayB = true) := by
          have := HKI.out
          show _ = _
          simp [cDel, Mq.m, mayB, kindB, fieldB, hasF, valueB, hasV, this]
        have HC : Hid (Calls Tryz.prog 25 #[.pointer (some ⟨s, 0, none⟩), .slice (some ⟨wB.heap.size, 0, none⟩) 1 1] (wB.alloc (.cells #[.int .i64 2, .int .i64 κ.g, .int .i64 κ.n, .int .i64 κ.i, .int .i64 0, .int .i64 0] 61)) fun e w' => e = .returned (.int .i64 0) ∧ Hid (Hd w w' s gv gl gd q κ (aT κ i v false) 4)) := by
          have := HB.out.done (.cells #[.int .i64 2, .int .i64 κ.g, .int .i64 κ.n, .int .i64 κ.i, .int .i64 0, .int .i64 0] 61) 1 1 [cDel κ] (ms1 (cDel κ).m (heap_alloc_new wB _)) (by omega) HM1.out rfl
          rw [run_2] at this
          exact this
        clear HM1 HB
        go_wp2_with fail
        refine HC.out.mono ?_
        rintro e wC ⟨rfl, HC1⟩
        clear HC d0 d1 d2 x0 x1 x2
        have s0 : wC.drew.cell? ⟨s, 0, none⟩ = some (.pointer (some ⟨gv, 0, none⟩)) ∧ wC.drew.cell? ⟨s, 1, none⟩ = some (.pointer (some ⟨gl, 0, none⟩)) ∧ wC.drew.cell? ⟨s, 2, none⟩ = some (.pointer (some ⟨gd, 0, none⟩)) ∧ wC.drew.cell? ⟨q, 0, none⟩ = some (.int .i64 κ.g) ∧ wC.drew.cell? ⟨q, 1, none⟩ = some (.int .i64 κ.n) ∧ wC.drew.cell? ⟨q, 2, none⟩ = some (.int .i64 κ.i) := HC1.out.six
        have HV : Hid (Calls Tryz.prog 40 #[.pointer (some ⟨gv, 0, none⟩), .agg #[.int .i64 κ.g, .int .i64 κ.n, .int .i64 κ.i]] wC.drew fun e w' => e = .returned (.tuple #[.int .i64 0, .bool false]) ∧ Hid (Hd w w' s gv gl gd q κ (aT κ i v false) 4) ∧ (w'.cell? ⟨s, 0, none⟩ = some (.pointer (some ⟨gv, 0, none⟩)) ∧ w'.cell? ⟨s, 1, none⟩ = some (.pointer (some ⟨gl, 0, none⟩)) ∧ w'.cell? ⟨s, 2, none⟩ = some (.pointer (some ⟨gd, 0, none⟩)) ∧ w'.cell? ⟨q, 0, none⟩ = some (.int .i64 κ.g) ∧ w'.cell? ⟨q, 1, none⟩ = some (.int .i64 κ.n) ∧ w'.cell? ⟨q, 2, none⟩ = some (.int .i64 κ.i))) := by
          have := (HC1.out.later (Below.refl _ _).drew).value
          have e : (aT κ i v false).V κ = none := by simp [aT]
          rw [e] at this
          exact this
        clear HC1
        go_wp2
        go_region_held3 (fun w' => w'.cell? ⟨s, 0, none⟩ = some (.pointer (some ⟨gv, 0, none⟩)) ∧ w'.cell? ⟨s, 1, none⟩ = some (.pointer (some ⟨gl, 0, none⟩)) ∧ w'.cell? ⟨s, 2, none⟩ = some (.pointer (some ⟨gd, 0, none⟩)) ∧ w'.cell? ⟨q, 0, none⟩ = some (.int .i64 κ.g) ∧ w'.cell? ⟨q, 1, none⟩ = some (.int .i64 κ.n) ∧ w'.cell? ⟨q, 2, none⟩ = some (.int .i64 κ.i)) (first | with_reducible exact s0 | with_reducible exact s1) ((go_at_call 40; with_reducible refine HV.out.mono ?_; rintro e wD ⟨rfl, HD, s1⟩))
        all_goals
          clear HV s0
          have s0 : wD.drew.cell? ⟨s, 0, none⟩ = some (.pointer (some ⟨gv, 0, none⟩)) ∧ wD.drew.cell? ⟨s, 1, none⟩ = some (.pointer (some ⟨gl, 0, none⟩)) ∧ wD.drew.cell? ⟨s, 2, none⟩ = some (.pointer (some ⟨gd, 0, none⟩)) ∧ wD.drew.cell? ⟨q, 0, none⟩ = some (.int .i64 κ.g) ∧ wD.drew.cell? ⟨q, 1, none⟩ = some (.int .i64 κ.n) ∧ wD.drew.cell? ⟨q, 2, none⟩ = some (.int .i64 κ.i) := s1
          have HDd : Hid (Hd w wD.drew s gv gl gd q κ (aT κ i v false) 4) := HD.out.later (Below.refl _ _).drew
          have HL : Hid (∀ W, Hid (Hd w W s gv gl gd q κ (aT κ i v false) 4) → Calls Tryz.prog 41 #[.pointer (some ⟨gl, 0, none⟩), .agg #[.int .i64 κ.g, .int .i64 κ.n, .int .i64 κ.i]] W fun e w' => ∃ y c, e = .returned (.slice (some ⟨y, 0, none⟩) 1 c) ∧ 0 < c ∧ w'.cell? ⟨y, 0, none⟩ = some (.int .i64 v) ∧ Hid (Hd w w' s gv gl gd q κ (aT κ i v false) 4) ∧ (w'.cell? ⟨s, 0, none⟩ = some (.pointer (some ⟨gv, 0, none⟩)) ∧ w'.cell? ⟨s, 1, none⟩ = some (.pointer (some ⟨gl, 0, none⟩)) ∧ w'.cell? ⟨s, 2, none⟩ = some (.pointer (some ⟨gd, 0, none⟩)) ∧ w'.cell? ⟨q, 0, none⟩ = some (.int .i64 κ.g) ∧ w'.cell? ⟨q, 1, none⟩ = some (.int .i64 κ.n) ∧ w'.cell? ⟨q, 2, none⟩ = some (.int .i64 κ.i))) := fun W hW => hW.out.list v (by simp [aT])
          have HX : Hid (∀ W, Hid (Hd w W s gv gl gd q κ (aT κ i v false) 4) → Calls Tryz.prog 19 #[.pointer (some ⟨gd, 0, none⟩), .agg #[.int .i64 κ.g, .int .i64 κ.n, .int .i64 κ.i]] W fun e w' => ∃ y c, e = .returned (.slice y 1 c) ∧ Hid (Hd w w' s gv gl gd q κ (aT κ i v false) 4) ∧ (w'.cell? ⟨s, 0, none⟩ = some (.pointer (some ⟨gv, 0, none⟩)) ∧ w'.cell? ⟨s, 1, none⟩ = some (.pointer (some ⟨gl, 0, none⟩)) ∧ w'.cell? ⟨s, 2, none⟩ = some (.pointer (some ⟨gd, 0, none⟩)) ∧ w'.cell? ⟨q, 0, none⟩ = some (.int .i64 κ.g) ∧ w'.cell? ⟨q, 1, none⟩ = some (.int .i64 κ.n) ∧ w'.cell? ⟨q, 2, none⟩ = some (.int .i64 κ.i))) := fun W hW => hW.out.dict ((i : Int), v) (by simp [aT])
          clear s1 HD
          go_wp2
          go_region_held3 (fun w' => w'.cell? ⟨s, 0, none⟩ = some (.pointer (some ⟨gv, 0, none⟩)) ∧ w'.cell? ⟨s, 1, none⟩ = some (.pointer (some ⟨gl, 0, none⟩)) ∧ w'.cell? ⟨s, 2, none⟩ = some (.pointer (some ⟨gd, 0, none⟩)) ∧ w'.cell? ⟨q, 0, none⟩ = some (.int .i64 κ.g) ∧ w'.cell? ⟨q, 1, none⟩ = some (.int .i64 κ.n) ∧ w'.cell? ⟨q, 2, none⟩ = some (.int .i64 κ.i)) (first | with_reducible exact s0 | with_reducible exact s1 | with_reducible exact s2) (first | (go_at_call 41; with_reducible refine (HL.out _ HDd).mono ?_; rintro e wE ⟨yE, cE, rfl, pE, rE, HE, s1⟩) | (go_at_call 19; with_reducible refine (HX.out _ HE).mono ?_; rintro e wF ⟨yF, cF, rfl, HF, s2⟩))
          all_goals
            clear HL HX HDd HE s0 s1 pE rE
            obtain ⟨d0, d1, d2, x0, x1, x2⟩ := s2
            have HM1 : Hid ((([cClear κ, cCut κ i] : List Mq).map Mq.m).all mayB = true) := by
              have := HKI.out
              have h8 : (i : Int) < 8 := by omega
              show _ = _
              simp [cClear, cCut, Mq.m, mayB, kindB, fieldB, hasF, inR, valueB, hasV, this, h8]
            have HC : Hid (Calls Tryz.prog 25 #[.pointer (some ⟨s, 0, none⟩), .slice (some ⟨wF.heap.size, 0, none⟩) 2 2] (wF.alloc (.cells #[.int .i64 4, .int .i64 κ.g, .int .i64 κ.n, .int .i64 κ.i, .int .i64 0, .int .i64 0, .int .i64 6, .int .i64 κ.g, .int .i64 κ.n, .int .i64 κ.i, .int .i64 (i : Int), .int .i64 0] 61)) fun e w' => e = .returned (.int .i64 0) ∧ Hid (Hd w w' s gv gl gd q κ ab0 6)) := by
              have := HF.out.done (.cells #[.int .i64 4, .int .i64 κ.g, .int .i64 κ.n, .int .i64 κ.i, .int .i64 0, .int .i64 0, .int .i64 6, .int .i64 κ.g, .int .i64 κ.n, .int .i64 κ.i, .int .i64 (i : Int), .int .i64 0] 61) 2 2 [cClear κ, cCut κ i] (ms2 (cClear κ).m (cCut κ i).m (heap_alloc_new wF _)) (by omega) HM1.out rfl
              rw [run_3] at this
              exact this
            clear HM1 HF
            go_wp2_with fail
            refine HC.out.mono ?_
            rintro e wG ⟨rfl, HG⟩
            clear HC d0 d1 d2 x0 x1 x2
            have HT := hide (HG.out.told (by omega) kof_0)
            clear HG
            go_wp2_with fail
            refine HT.out.mono ?_
            rintro e wH ⟨yH, cH, rfl, HH, _⟩
            clear HT
            have hSn := newSt_below wH
            have hE : Hid (Calls Tryz.prog 39 #[.pointer (some ⟨s, 0, none⟩), .pointer (some ⟨wH.heap.size + 1 + 1 + 1, 0, none⟩)] (newSt wH) fun e w' => e = .returned (.bool true) ∧ Hid (Hd w w' s gv gl gd q κ ab0 6)) := by
              have h1 := HH.out.later hSn
              refine Calls.mono (stateEq _ _ s gv gl gd 6 _ _ _ _ 0 ab0 ab0 (newSt wH) h1.h.st (StaS.new wH (fun k => wH.heap.size ≤ k) (fun k hk => hk)) (by omega) (by omega) h1.h.ll h1.h.dl (fun _ => Nat.zero_le _) (fun _ => Nat.zero_le _)) ?_
              rintro e w' ⟨r, r1, r2, r3⟩
              rw [r2.2 rfl] at r1
              exact ⟨r1, h1.later r3⟩
            clear HH hSn
            go_wp2_with fail
            refine (stateNew wH).mono ?_
            rintro e wI ⟨rfl, rfl⟩
            go_wp2_with fail
            refine hE.out.mono ?_
            rintro e wJ ⟨rfl, HJ⟩
            have HN := hide (eq_nil HJ.out.h (by omega))
            clear hE HJ
            go_wp2_with fail
            refine HN.out.mono ?_
            rintro e wK ⟨rfl, HK⟩
            have HKH := hide HK
            clear HN HK
            go_wp2
            go_ret
            exact ⟨by simp, HKH.out⟩

theorem own : ownKnob Tryz.prog.godebug = none := by kernel_rfl
theorem laidOut : laidOutB Tryz.prog = true := by kernel_rfl

set_option maxRecDepth 100000 in
theorem lifted (os : Os) (started : os.Started) (H : Type) (enc : TypeId × Value → H) :
    ReturnsInHanded {} Tryz.checked os 8 .any (Rows.stateThreeSpec.pre6 enc Tryz.prog Tryz.f8 Rows.stateThreeRow.domain false) (Rows.stateThreeSpec.post enc Tryz.prog Tryz.f8 false true false false) := by
  refine returnsInHanded_of_change (C := Tryz.checked) own started (by kernel_rfl) Tryz.func8
    (ChangeSpec.witness6 (enc := enc) (C := Tryz.checked) false ⟨#[], #[.int .i64 0, .int .i64 0, .int .i64 0, .int .i64 0, .int .i64 0], []⟩ 8 (by kernel_rfl) (by kernel_rfl) (by kernel_rfl) (by kernel_rfl)) ?_
  intro W base args ds gs before hval0 hW hcnd _
  have hval : ∀ (j : Nat) t v, Tryz.f8.params[j]? = some t → args[j]? = some v → Value.okWide Tryz.prog W .any base t v := hval0
  have hW' := hW
  obtain ⟨p, q, hA0, hV, rfl, hfz, hnd⟩ := hW
  have hA : DataW.TrodAll enc Tryz.prog W 0 (fun _ => true) true Tryz.f8.params.toList args.toList ds p := hA0
  rw [Tryz.params8] at hA hval
  obtain ⟨v0, vs0, d0, ds0, p0, q0, hargs, rfl, rfl, h0, r0⟩ := trodAll_cons hA
  obtain ⟨v1, vs1, d1, ds1, p1, q1, rfl, rfl, rfl, h1, r1⟩ := trodAll_cons r0
  obtain ⟨v2, vs2, d2, ds2, p2, q2, rfl, rfl, rfl, h2, r2⟩ := trodAll_cons r1
  obtain ⟨v3, vs3, d3, ds3, p3, q3, rfl, rfl, rfl, h3, r3⟩ := trodAll_cons r2
  obtain ⟨v4, vs4, d4, ds4, p4, q4, rfl, rfl, rfl, h4, r4⟩ := trodAll_cons r3
  obtain ⟨rfl, rfl, rfl⟩ := trodAll_nil r4
  obtain rfl : args = #[v0, v1, v2, v3, v4] := by cases args; simp_all
  obtain ⟨rfl, rfl⟩ := trodVars_none hV
  obtain ⟨a0, rfl, rfl, rfl, w0⟩ := open_int Tryz.underlying3 (hval 0 3 v0 rfl rfl) h0
  obtain ⟨a1, rfl, rfl, rfl, w1⟩ := open_int Tryz.underlying3 (hval 1 3 v1 rfl rfl) h1
  obtain ⟨a2, rfl, rfl, rfl, w2⟩ := open_int Tryz.underlying3 (hval 2 3 v2 rfl rfl) h2
  obtain ⟨a3, rfl, rfl, rfl, w3⟩ := open_int Tryz.underlying2 (hval 3 2 v3 rfl rfl) h3
  obtain ⟨a4, rfl, rfl, rfl, w4⟩ := open_int Tryz.underlying2 (hval 4 2 v4 rfl rfl) h4
  clear hA0 hval0
  refine (walk a0 a1 a2 a3 a4 W w0 w1 w2 w3 w4).mono fun e W' ⟨he, bel⟩ => ?_
  subst he
  exact ⟨_, rfl, _, _, _, [], _, [], hW', trodAll_mk1 (shut_bool Tryz.underlying4 _), (trodAll_cons_mk (shut_int Tryz.underlying3 w0) (trodAll_cons_mk (shut_int Tryz.underlying3 w1) (trodAll_cons_mk (shut_int Tryz.underlying3 w2) (trodAll_cons_mk (shut_int Tryz.underlying2 w3) (trodAll_cons_mk (shut_int Tryz.underlying2 w4) trodAll_mk0))))), rfl, bel.frame _, fun h => by cases h⟩

theorem over : Rows.stateThreeRow.holds Tryz.pinned (OpenSpec.ofChange Rows.stateThreeSpec) :=
  OpenClaim.holds_of_wide 8 Tryz.f8 rfl rfl rfl rfl rfl rfl rfl ⟨rfl, rfl, rfl, rfl, rfl⟩ rfl rfl rfl rfl rfl (by kernel_rfl) Tryz.func8 (by kernel_rfl)
    (of_decide_eq_true (by kernel_rfl)) (by unfold Func.isWrapper; first | (rw [if_pos (by decide +kernel)]; kernel_rfl) | (rw [if_neg (by decide +kernel)]; exact ⟨rfl, rfl⟩))
    (fun os started H enc _ => lifted os started H enc)

theorem proved : Rows.StateThreeSaid := over
#print axioms proved
end Go.Proofs.YtgglokfpafbmeaaGreat.stateThree
