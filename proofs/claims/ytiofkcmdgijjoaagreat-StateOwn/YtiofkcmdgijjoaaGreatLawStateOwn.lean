/- The statement StateOwn: what is embedded is the state's own, for all changes and all steps. -/
import Derived.Test.YtiofkcmdgijjoaaGreatTwP
import Derived.Test.YtiofkcmdgijjoaaGreatBeg7
import Derived.Test.YtiofkcmdgijjoaaGreatLawA
import Derived.Deep.LoopGhost
import Derived.Deep.CutBlock
import Derived.Deep.CutRange
import Derived.Lib.MinMax
namespace Go.Proofs.YtiofkcmdgijjoaaGreat.stateOwn
open Go.ChangeShapes Go.WideShapes Go.ChangeAt Go.RowKit Go.MapKept Go.ChangeMaps

theorem len8 (x : Int) : ∃ (r : Int) (i : Nat), x.tmod 8 = r ∧ -8 < r ∧ r < 8 ∧ (r + 8) % 8 = (i : Int) ∧ i < 8 := by
  obtain ⟨r, i, h1, h2, h3, h4, h5⟩ := placeK x 8 (by omega)
  exact ⟨r, i, h1, by omega, by omega, h4, h5⟩
theorem key_in (a b c : Int) : keyB (keyF a b c).g (keyF a b c).n (keyF a b c).i = true := by
  have hb : 0 ≤ bits BinOp.and IntKind.i64 b 1 ∧ bits BinOp.and IntKind.i64 b 1 < 2 := by
    have h : (BitVec.ofInt 64 b &&& BitVec.ofInt 64 1).toNat < 2 := by
      have e : (BitVec.ofInt 64 1).toNat = 1 := by decide
      rw [BitVec.toNat_and, e, Nat.and_one_is_mod]
      omega
    show 0 ≤ IntKind.i64.wrap (((BitVec.ofInt 64 b &&& BitVec.ofInt 64 1).toNat : Nat) : Int) ∧ IntKind.i64.wrap (((BitVec.ofInt 64 b &&& BitVec.ofInt 64 1).toNat : Nat) : Int) < 2
    rw [IntKind.wrap_i64]
    omega
  have h1 : 0 ≤ (a.tmod 4 + 4) % 4 ∧ (a.tmod 4 + 4) % 4 < 4 := by omega
  have h2 : 0 ≤ (c.tmod 24 + 24) % 24 ∧ (c.tmod 24 + 24) % 24 < 24 := by omega
  have e : keyB (keyF a b c).g (keyF a b c).n (keyF a b c).i = (inR ((a.tmod 4 + 4) % 4) 4 && inR (bits BinOp.and IntKind.i64 b 1) 2 && inR ((c.tmod 24 + 24) % 24) 24) := rfl
  rw [e]
  unfold inR
  rw [decide_eq_true h1, decide_eq_true hb, decide_eq_true h2]
  rfl
theorem dQ_len (a : Ab) (xs : List Mq) (k : K3) : ((dQ a xs).L k).length ≤ (a.L k).length + xs.length := by
  unfold dQ
  have := runQ_len k xs a
  split
  · split
    · exact this
    · omega
  · omega
/-- A change of a law's own, as it lies. -/
def mO (c g n i f v : Int) : Obj := .cells #[.int .i64 c, .int .i64 g, .int .i64 n, .int .i64 i, .int .i64 f, .int .i64 v] 55 (0, 0)
def oO (d : Kop) : Obj := .cells #[.int .i64 d.c, .int .i64 d.k.g, .int .i64 d.k.n, .int .i64 d.k.i, .int .i64 d.f, .int .i64 d.v, .slice d.a d.n d.cp] 31 (0, 0)
theorem cells_six {w : World} {g : Nat} {a0 a1 a2 a3 a4 a5 : Value} {T : TypeId} (h : w.heap[g]? = some (.cells #[a0, a1, a2, a3, a4, a5] T (0, 0))) :
    w.cell? ⟨g, 0, none⟩ = some a0 ∧ w.cell? ⟨g, 1, none⟩ = some a1 ∧ w.cell? ⟨g, 2, none⟩ = some a2 ∧ w.cell? ⟨g, 3, none⟩ = some a3 ∧ w.cell? ⟨g, 4, none⟩ = some a4 ∧ w.cell? ⟨g, 5, none⟩ = some a5 ∧ ∀ i, w.frozen? ⟨g, i, none⟩ = false := by
  refine ⟨?_, ?_, ?_, ?_, ?_, ?_, fun i => by simp [World.frozen?, h]⟩ <;> simp [World.cell?, h]
/-- What a round holds: the states; the law's own blocks: the step, the key, the change. -/
structure Rn (w W : World) (ob q mm s v1 l1 d1 r : Nat) (a b : Ab) (N : Nat) (d : Kop) (κ : K3) (m : Obj) : Prop where
  t : Tw (fun k => k = ob ∨ k = q ∨ k = mm) w W s v1 l1 d1 r a b N
  o : W.heap[ob]? = some (oO d)
  k : W.heap[q]? = some (k3O κ)
  m : W.heap[mm]? = some m
  ne : ob ≠ mm ∧ q ≠ mm
  ge : w.heap.size ≤ mm
section
variable {w W W' : World} {ob q mm s v1 l1 d1 r N M : Nat} {a b a' b' : Ab} {d : Kop} {κ : K3} {m : Obj}
theorem Rn.later (h : Rn w W ob q mm s v1 l1 d1 r a b N d κ m) (hb : Below W.heap.size W W') : Rn w W' ob q mm s v1 l1 d1 r a b N d κ m :=
  ⟨h.t.later hb, boxed_old h.o hb, boxed_old h.k hb, boxed_old h.m hb, h.ne, h.ge⟩
theorem Rn.keep (h : Rn w W ob q mm s v1 l1 d1 r a b N d κ m) (ht : Tw (fun k => k = ob ∨ k = q ∨ k = mm) w W' s v1 l1 d1 r a' b' M) (hk : ∀ k, (k = ob ∨ k = q ∨ k = mm) → W'.heap[k]? = W.heap[k]?) : Rn w W' ob q mm s v1 l1 d1 r a' b' M d κ m :=
  ⟨ht, (hk _ (Or.inl rfl)).trans h.o, (hk _ (Or.inr (Or.inl rfl))).trans h.k, (hk _ (Or.inr (Or.inr rfl))).trans h.m, h.ne, h.ge⟩
theorem Rn.seven (h : Rn w W ob q mm s v1 l1 d1 r a b N d κ m) : W.cell? ⟨s, 0, none⟩ = some (.pointer (some ⟨v1, 0, none⟩)) ∧ W.cell? ⟨s, 1, none⟩ = some (.pointer (some ⟨l1, 0, none⟩)) ∧ W.cell? ⟨s, 2, none⟩ = some (.pointer (some ⟨d1, 0, none⟩)) ∧ W.cell? ⟨q, 0, none⟩ = some (.int .i64 κ.g) ∧ W.cell? ⟨q, 1, none⟩ = some (.int .i64 κ.n) ∧ W.cell? ⟨q, 2, none⟩ = some (.int .i64 κ.i) ∧ W.cell? ⟨ob, 5, none⟩ = some (.int .i64 d.v) := by
  obtain ⟨c0, c1, c2⟩ := h.t.parts
  obtain ⟨k0, k1, k2⟩ := cells_three h.k
  exact ⟨c0, c1, c2, k0, k1, k2, (cells_seven h.o).2.2.2.2.2.1⟩
/-- The law writes into its change. -/
theorem Rn.put {m' : Obj} (h : Rn w W ob q mm s v1 l1 d1 r a b N d κ m) (ht : Tch (fun k => k = mm) W W') (hm : W'.heap[mm]? = some m') : Rn w W' ob q mm s v1 l1 d1 r a b N d κ m' :=
  ⟨h.t.turnF ht (fun k _ e => by subst e; exact ⟨Or.inr (Or.inr rfl), h.ge⟩), ht.old h.o h.ne.1, ht.old h.k h.ne.2, hm, h.ne, h.ge⟩
end
theorem set6 {w : World} {r : Nat} {a0 a1 a2 a3 a4 a5 : Value} (h : w.heap[r]? = some (.cells #[a0, a1, a2, a3, a4, a5] 55 (0, 0))) (b0 b1 b2 b3 b4 b5 : Value) :
    ((((((w.setCell ⟨r, 0, none⟩ b0).setCell ⟨r, 1, none⟩ b1).setCell ⟨r, 2, none⟩ b2).setCell ⟨r, 3, none⟩ b3).setCell ⟨r, 4, none⟩ b4).setCell ⟨r, 5, none⟩ b5).heap[r]? = some (.cells #[b0, b1, b2, b3, b4, b5] 55 (0, 0)) ∧ Tch (fun j => j = r) w ((((((w.setCell ⟨r, 0, none⟩ b0).setCell ⟨r, 1, none⟩ b1).setCell ⟨r, 2, none⟩ b2).setCell ⟨r, 3, none⟩ b3).setCell ⟨r, 4, none⟩ b4).setCell ⟨r, 5, none⟩ b5) := by
  obtain ⟨hlt, he⟩ := Array.getElem?_eq_some_iff.1 h
  have s : ∀ (w : World) (j : Nat) (b : Value), Tch (fun j => j = r) w (w.setCell ⟨r, j, none⟩ b) := fun w j b => (Tch.of (grown_setCell w r j b)).mono (fun k _ e => Option.some.inj e)
  refine ⟨by simp [World.setCell, Array.getElem_modify, hlt, he], (((((s w 0 b0).trans (s _ 1 b1)).trans (s _ 2 b2)).trans (s _ 3 b3)).trans (s _ 4 b4)).trans (s _ 5 b5)⟩
theorem setK {w : World} {r : Nat} {a0 a1 a2 a3 a4 a5 : Value} (h : w.heap[r]? = some (.cells #[a0, a1, a2, a3, a4, a5] 55 (0, 0))) (b1 b2 b3 : Value) :
    (((w.setCell ⟨r, 1, none⟩ b1).setCell ⟨r, 2, none⟩ b2).setCell ⟨r, 3, none⟩ b3).heap[r]? = some (.cells #[a0, b1, b2, b3, a4, a5] 55 (0, 0)) ∧ Tch (fun j => j = r) w (((w.setCell ⟨r, 1, none⟩ b1).setCell ⟨r, 2, none⟩ b2).setCell ⟨r, 3, none⟩ b3) := by
  obtain ⟨hlt, he⟩ := Array.getElem?_eq_some_iff.1 h
  have s : ∀ (w : World) (j : Nat) (b : Value), Tch (fun j => j = r) w (w.setCell ⟨r, j, none⟩ b) := fun w j b => (Tch.of (grown_setCell w r j b)).mono (fun k _ e => Option.some.inj e)
  refine ⟨by simp [World.setCell, Array.getElem_modify, hlt, he], ((s w 1 b1).trans (s _ 2 b2)).trans (s _ 3 b3)⟩

set_option maxRecDepth 100000 in
set_option maxHeartbeats 8000000 in
theorem walk (a0 : Option Addr) (n0 c0 : Nat) (z0 : List Mq) (a1 : Option Addr) (n1 c1 : Nat) (z1 : List Kop) (w : World) (h0 : Ms w a0 n0 (z0.map Mq.m)) (_f0 : ∀ x ∈ z0, wfQ x) (_l0 : n0 ≤ c0) (_m0 : c0 ≤ 9223372036854775807) (h1 : Kos w a1 n1 z1) (_f1 : ∀ d ∈ z1, wfKo w d) (_l1 : n1 ≤ c1) (_m1 : c1 ≤ 9223372036854775807) :
    Calls Tryz.prog 4 #[.slice a0 n0 c0, .slice a1 n1 c1] w fun e w' => e = .returned (.bool true) ∧ Below w.heap.size w w' := by
  obtain ⟨m, hm⟩ : ∃ m, min n0 20 = m := ⟨_, rfl⟩
  have hmI : min (n0 : Int) 20 = (m : Int) := by omega
  have su := fun W => run_uptoM a0 n0 c0 m (by omega) W
  have HP := hide (show Ms w a0 m ((z0.take m).map Mq.m) by rw [List.map_take]; exact h0.take m (by omega))
  have hzl : Hid ((z0.take m).length ≤ 20) := by show _ ≤ _; rw [List.length_take]; omega
  have HK := hide h1
  clear h0 _f0 h1 _f1 _m0
  generalize z0.take m = xs at *
  go_enter Tryz.func4, Tryz.ntmps4
  go_wp2_with fail
  refine (begun7_true _).mono ?_
  rintro e w0 ⟨rfl, hb0⟩
  go_wp2_with fail
  refine (stateNew w0).mono ?_
  rintro e w9 ⟨rfl, rfl⟩
  go_wp2_with fail
  refine (refNew _).mono ?_
  rintro e w8 ⟨rfl, rfl⟩
  have HT := hide (Tw.new hb0)
  clear hb0
  generalize (newSt w0).alloc (.cells stZ 97) = W1 at *
  generalize (newSt w0).heap.size = r at *
  generalize w0.heap.size + 1 + 1 + 1 = s at *
  generalize w0.heap.size + 1 + 1 = d1 at *
  generalize w0.heap.size + 1 = l1 at *
  generalize w0.heap.size = v1 at *
  go_wp2_with fail
  refine (HT.out.do1 a0 m c0 xs HP.out (by omega)).mono ?_
  rintro e w3 ⟨rfl, hT3, _⟩
  have HT3 := hide hT3
  clear hT3 HT
  go_wp2_with fail
  refine (HT3.out.do2 a0 m c0 xs HP.out (by omega)).mono ?_
  rintro e w4 ⟨rfl, hT4, _⟩
  have HI : Hid (∃ a, Tw (fun _ => False) w w4 s v1 l1 d1 r a a (20 + 0) ∧ ∀ k, (a.L k).length ≤ 20 + 0) := ⟨_, hT4.more (by omega), fun k => by have := dQ_len ab0 xs k; have e : (ab0.L k).length = 0 := rfl; have := hzl.out; omega⟩
  clear hT4 HT3 HP hzl
  generalize dErr ab0 xs = er at *
  clear su hm hmI
  go_wp2
  go_loopg [8] 30 (fun gm ix wr => ∃ t : Nat, gm = 30 - t ∧ t ≤ n1 ∧ t ≤ 30 ∧ ix = .int .i64 t ∧ Hid (∃ a, Tw (fun _ => False) w wr s v1 l1 d1 r a a (20 + t) ∧ ∀ k, (a.L k).length ≤ 20 + t))
  case atStart => exact ⟨0, rfl, by omega, by omega, rfl, HI⟩
  case round =>
    clear HI
    obtain ⟨t, rfl, ht, ht30, rfl, HI⟩ := hrel
    by_cases hin : t < n1 ∧ t < 30
    · obtain ⟨hlt, hlt30⟩ := hin
      obtain ⟨d, hd⟩ : ∃ d, z1[t]? = some d := ⟨_, List.getElem?_eq_getElem (by rw [HK.out.1]; exact hlt)⟩
      obtain ⟨a, hT, hL⟩ := HI.out
      obtain ⟨b, o, rfl, hc⟩ := (HK.out.later hT.bel (Nat.le_refl _)).2 (by omega)
      obtain ⟨p0, p1, p2, p3, p4, p5, p6⟩ := hc t d hd
      have HT := hide hT
      have HL := hide hL
      clear hc hd hT hL HI
      obtain ⟨dc, kd, df, dv, da, dn, dp, dz⟩ := d
      simp only at p0 p1 p2 p3 p4 p5 p6
      obtain ⟨rf, i, er8, br, br', sr, hi⟩ := len8 df
      obtain ⟨kt, hkt⟩ : ∃ kt, dc.tmod 6 = kt := ⟨_, rfl⟩
      go_wp2_with fail
      refine (key_any kd.g kd.n kd.i _).mono ?_
      rintro e w2 ⟨rfl, hb2⟩
      have hobx := heap_alloc_new wr (oO ⟨dc, kd, df, dv, da, dn, dp, dz⟩)
      have hbo := below_alloc wr (oO ⟨dc, kd, df, dv, da, dn, dp, dz⟩) wr.heap.size (Nat.le_refl _)
      have hso : (wr.alloc (oO ⟨dc, kd, df, dv, da, dn, dp, dz⟩)).heap.size = wr.heap.size + 1 := by simp
      have HKI := hide (key_in kd.g kd.n kd.i)
      generalize keyF kd.g kd.n kd.i = κ at *
      have hbk := below_alloc w2 (k3O κ) w2.heap.size (Nat.le_refl _)
      have hsk : (w2.alloc (k3O κ)).heap.size = w2.heap.size + 1 := by simp
      have hbm := below_alloc (w2.alloc (k3O κ)) (mO 0 0 0 0 0 0) (w2.alloc (k3O κ)).heap.size (Nat.le_refl _)
      have hsm : ((w2.alloc (k3O κ)).alloc (mO 0 0 0 0 0 0)).heap.size = w2.heap.size + 2 := by simp
      have HR : Hid (Rn w ((w2.alloc (k3O κ)).alloc (mO 0 0 0 0 0 0)) wr.heap.size w2.heap.size (w2.heap.size + 1) s v1 l1 d1 r a a (20 + t) ⟨dc, kd, df, dv, da, dn, dp, dz⟩ κ (mO 0 0 0 0 0 0)) := by
        have hb2' : Below (wr.alloc (oO ⟨dc, kd, df, dv, da, dn, dp, dz⟩)).heap.size (wr.alloc (oO ⟨dc, kd, df, dv, da, dn, dp, dz⟩)) w2 := hb2
        have hz2 := hb2'.size
        have hzw := HT.out.bel.size
        have hbkm := hbk.trans (hbm.mono hbk.size)
        have hall := hbo.trans ((hb2'.trans (hbkm.mono hz2)).mono hbo.size)
        refine ⟨HT.out.hold hall (fun k hk => ?_), boxed_old (boxed_old hobx hb2') hbkm, boxed_old (heap_alloc_new w2 _) hbm, ?_, by omega, by omega⟩
        · rcases hk with rfl | rfl | rfl <;> omega
        · have := heap_alloc_new (w2.alloc (k3O κ)) (mO 0 0 0 0 0 0)
          rwa [hsk] at this
      have HOS : Hid (wr.heap.size < w2.heap.size) := by
        have hb2' : Below (wr.alloc (oO ⟨dc, kd, df, dv, da, dn, dp, dz⟩)).heap.size (wr.alloc (oO ⟨dc, kd, df, dv, da, dn, dp, dz⟩)) w2 := hb2
        have := hb2'.size
        show _ < _
        omega
      have hob2 : w2.heap[wr.heap.size]? = some (oO ⟨dc, kd, df, dv, da, dn, dp, dz⟩) := boxed_old hobx hb2
      obtain ⟨_, _, _, _, y4, _, _⟩ := cells_seven (boxed_old hob2 hbk)
      obtain ⟨y0, _⟩ := cells_seven (boxed_old (boxed_old hob2 hbk) hbm)
      unfold k3O at y4 y0 HR
      unfold mO at y0 HR
      clear hobx hbo hbk hbm hsk hsm hso hb2 hob2 HT p0 p1 p2 p3 p4 p5 p6
      unfold k3E
      have sr2 : ((i : Nat) : Int) < 8 := by omega
      go_upto_block 2 with fail
      simp only [sr]
      generalize (w2.alloc (.cells #[.int .i64 κ.g, .int .i64 κ.n, .int .i64 κ.i] 28)).alloc (.cells #[.int .i64 0, .int .i64 0, .int .i64 0, .int .i64 0, .int .i64 0, .int .i64 0] 55) = W3 at *
      generalize w2.heap.size + 1 = mm at *
      generalize w2.heap.size = q at *
      generalize wr.heap.size = ob at *
      clear HOS er8 br br' sr hkt
      go_cut [] from 61 to 130 (fun wx => Hid (∃ x : Mq, x.k = κ ∧ mayB x.m = true ∧ Rn w wx ob q mm s v1 l1 d1 r (doQ a x) a (20 + t + 1) ⟨dc, kd, df, dv, da, dn, dp, dz⟩ κ (mO x.c 0 0 0 x.f x.v)))
      case first =>
        by_cases k0 : kt = 0
        · have b0 : (kt == 0) = true := by simp [k0]
          have s0 : (W3.drew.cell? ⟨s, 0, none⟩ = some (.pointer (some ⟨v1, 0, none⟩)) ∧ W3.drew.cell? ⟨s, 1, none⟩ = some (.pointer (some ⟨l1, 0, none⟩)) ∧ W3.drew.cell? ⟨s, 2, none⟩ = some (.pointer (some ⟨d1, 0, none⟩)) ∧ W3.drew.cell? ⟨q, 0, none⟩ = some (.int .i64 κ.g) ∧ W3.drew.cell? ⟨q, 1, none⟩ = some (.int .i64 κ.n) ∧ W3.drew.cell? ⟨q, 2, none⟩ = some (.int .i64 κ.i) ∧ W3.drew.cell? ⟨ob, 5, none⟩ = some (.int .i64 dv)) := (HR.out.later (Below.refl W3.heap.size W3).drew).seven
          have HC : Hid (Calls Tryz.prog 21 #[.pointer (some ⟨v1, 0, none⟩), .agg #[.int .i64 κ.g, .int .i64 κ.n, .int .i64 κ.i], .int .i64 dv] W3.drew fun e w' => e = .returned (.tuple #[]) ∧ Hid (Rn w w' ob q mm s v1 l1 d1 r (doQ a ⟨1, κ, 0, dv⟩) a (20 + t + 1) ⟨dc, kd, df, dv, da, dn, dp, dz⟩ κ (.cells #[.int .i64 0, .int .i64 0, .int .i64 0, .int .i64 0, .int .i64 0, .int .i64 0] 55 (0, 0))) ∧ (w'.cell? ⟨s, 0, none⟩ = some (.pointer (some ⟨v1, 0, none⟩)) ∧ w'.cell? ⟨s, 1, none⟩ = some (.pointer (some ⟨l1, 0, none⟩)) ∧ w'.cell? ⟨s, 2, none⟩ = some (.pointer (some ⟨d1, 0, none⟩)) ∧ w'.cell? ⟨q, 0, none⟩ = some (.int .i64 κ.g) ∧ w'.cell? ⟨q, 1, none⟩ = some (.int .i64 κ.n) ∧ w'.cell? ⟨q, 2, none⟩ = some (.int .i64 κ.i) ∧ w'.cell? ⟨ob, 5, none⟩ = some (.int .i64 dv))) := by
            have h := HR.out.later (Below.refl W3.heap.size W3).drew
            refine Calls.mono (h.t.set κ dv) ?_
            rintro e w' ⟨r1, r2, r3⟩
            have h' := h.keep r2 r3
            exact ⟨r1, h', h'.seven⟩
          have HMX : Hid (mayB (⟨1, κ, 0, dv⟩ : Mq).m = true) := by show _ = _; simp [Mq.m, mayB, kindB, fieldB, hasF, valueB, hasV, HKI.out]
          clear HR HKI HL y4 y0
          go_wp2
          go_region_held3 (fun w' => w'.cell? ⟨s, 0, none⟩ = some (.pointer (some ⟨v1, 0, none⟩)) ∧ w'.cell? ⟨s, 1, none⟩ = some (.pointer (some ⟨l1, 0, none⟩)) ∧ w'.cell? ⟨s, 2, none⟩ = some (.pointer (some ⟨d1, 0, none⟩)) ∧ w'.cell? ⟨q, 0, none⟩ = some (.int .i64 κ.g) ∧ w'.cell? ⟨q, 1, none⟩ = some (.int .i64 κ.n) ∧ w'.cell? ⟨q, 2, none⟩ = some (.int .i64 κ.i) ∧ w'.cell? ⟨ob, 5, none⟩ = some (.int .i64 dv)) (first | with_reducible exact s0 | with_reducible exact s1) ((go_at_call 21; with_reducible refine HC.out.mono ?_; rintro e W4 ⟨rfl, HR4, s1⟩))
          all_goals
            obtain ⟨_, _, _, _, _, _, t5⟩ := s1
            obtain ⟨m0, m1, m2, m3, m4, m5, fr⟩ := cells_six HR4.out.m
            have h6 := set6 HR4.out.m (.int .i64 1) (.int .i64 0) (.int .i64 0) (.int .i64 0) (.int .i64 0) (.int .i64 dv)
            have HS := hide (HR4.out.put h6.2 h6.1)
            clear h6 HR4 HC
            go_wp2
            go_meet
            case rel => exact ⟨⟨1, κ, 0, dv⟩, rfl, HMX.out, HS.out⟩
        · have b0 : (kt == 0) = false := by simp [k0]
          by_cases k1 : kt = 1
          · have b1 : (kt == 1) = true := by simp [k1]
            have s0 : (W3.drew.cell? ⟨s, 0, none⟩ = some (.pointer (some ⟨v1, 0, none⟩)) ∧ W3.drew.cell? ⟨s, 1, none⟩ = some (.pointer (some ⟨l1, 0, none⟩)) ∧ W3.drew.cell? ⟨s, 2, none⟩ = some (.pointer (some ⟨d1, 0, none⟩)) ∧ W3.drew.cell? ⟨q, 0, none⟩ = some (.int .i64 κ.g) ∧ W3.drew.cell? ⟨q, 1, none⟩ = some (.int .i64 κ.n) ∧ W3.drew.cell? ⟨q, 2, none⟩ = some (.int .i64 κ.i) ∧ W3.drew.cell? ⟨ob, 5, none⟩ = some (.int .i64 dv)) := (HR.out.later (Below.refl W3.heap.size W3).drew).seven
            have HC : Hid (Calls Tryz.prog 22 #[.pointer (some ⟨v1, 0, none⟩), .agg #[.int .i64 κ.g, .int .i64 κ.n, .int .i64 κ.i]] W3.drew fun e w' => e = .returned (.bool (a.V κ).isSome) ∧ Hid (Rn w w' ob q mm s v1 l1 d1 r (doQ a ⟨2, κ, 0, 0⟩) a (20 + t + 1) ⟨dc, kd, df, dv, da, dn, dp, dz⟩ κ (.cells #[.int .i64 0, .int .i64 0, .int .i64 0, .int .i64 0, .int .i64 0, .int .i64 0] 55 (0, 0))) ∧ (w'.cell? ⟨s, 0, none⟩ = some (.pointer (some ⟨v1, 0, none⟩)) ∧ w'.cell? ⟨s, 1, none⟩ = some (.pointer (some ⟨l1, 0, none⟩)) ∧ w'.cell? ⟨s, 2, none⟩ = some (.pointer (some ⟨d1, 0, none⟩)) ∧ w'.cell? ⟨q, 0, none⟩ = some (.int .i64 κ.g) ∧ w'.cell? ⟨q, 1, none⟩ = some (.int .i64 κ.n) ∧ w'.cell? ⟨q, 2, none⟩ = some (.int .i64 κ.i) ∧ w'.cell? ⟨ob, 5, none⟩ = some (.int .i64 dv))) := by
              have h := HR.out.later (Below.refl W3.heap.size W3).drew
              refine Calls.mono (h.t.unset κ) ?_
              rintro e w' ⟨r1, r2, r3⟩
              have h' := h.keep r2 r3
              exact ⟨r1, h', h'.seven⟩
            have HMX : Hid (mayB (⟨2, κ, 0, 0⟩ : Mq).m = true) := by show _ = _; simp [Mq.m, mayB, kindB, fieldB, hasF, valueB, hasV, HKI.out]
            clear HR HKI HL y4 y0
            go_wp2
            go_region_held3 (fun w' => w'.cell? ⟨s, 0, none⟩ = some (.pointer (some ⟨v1, 0, none⟩)) ∧ w'.cell? ⟨s, 1, none⟩ = some (.pointer (some ⟨l1, 0, none⟩)) ∧ w'.cell? ⟨s, 2, none⟩ = some (.pointer (some ⟨d1, 0, none⟩)) ∧ w'.cell? ⟨q, 0, none⟩ = some (.int .i64 κ.g) ∧ w'.cell? ⟨q, 1, none⟩ = some (.int .i64 κ.n) ∧ w'.cell? ⟨q, 2, none⟩ = some (.int .i64 κ.i) ∧ w'.cell? ⟨ob, 5, none⟩ = some (.int .i64 dv)) (first | with_reducible exact s0 | with_reducible exact s1) ((go_at_call 22; with_reducible refine HC.out.mono ?_; rintro e W4 ⟨rfl, HR4, s1⟩))
            all_goals
              obtain ⟨_, _, _, _, _, _, t5⟩ := s1
              obtain ⟨m0, m1, m2, m3, m4, m5, fr⟩ := cells_six HR4.out.m
              have h6 := set6 HR4.out.m (.int .i64 2) (.int .i64 0) (.int .i64 0) (.int .i64 0) (.int .i64 0) (.int .i64 0)
              have HS := hide (HR4.out.put h6.2 h6.1)
              clear h6 HR4 HC
              go_wp2
              go_meet
              case rel => exact ⟨⟨2, κ, 0, 0⟩, rfl, HMX.out, HS.out⟩
          · have b1 : (kt == 1) = false := by simp [k1]
            by_cases k2 : kt = 2
            · have b2 : (kt == 2) = true := by simp [k2]
              have s0 : (W3.drew.cell? ⟨s, 0, none⟩ = some (.pointer (some ⟨v1, 0, none⟩)) ∧ W3.drew.cell? ⟨s, 1, none⟩ = some (.pointer (some ⟨l1, 0, none⟩)) ∧ W3.drew.cell? ⟨s, 2, none⟩ = some (.pointer (some ⟨d1, 0, none⟩)) ∧ W3.drew.cell? ⟨q, 0, none⟩ = some (.int .i64 κ.g) ∧ W3.drew.cell? ⟨q, 1, none⟩ = some (.int .i64 κ.n) ∧ W3.drew.cell? ⟨q, 2, none⟩ = some (.int .i64 κ.i) ∧ W3.drew.cell? ⟨ob, 5, none⟩ = some (.int .i64 dv)) := (HR.out.later (Below.refl W3.heap.size W3).drew).seven
              have s0b : ((W3.alloc (.cells #[.int .i64 dv] 2)).drew.cell? ⟨s, 0, none⟩ = some (.pointer (some ⟨v1, 0, none⟩)) ∧ (W3.alloc (.cells #[.int .i64 dv] 2)).drew.cell? ⟨s, 1, none⟩ = some (.pointer (some ⟨l1, 0, none⟩)) ∧ (W3.alloc (.cells #[.int .i64 dv] 2)).drew.cell? ⟨s, 2, none⟩ = some (.pointer (some ⟨d1, 0, none⟩)) ∧ (W3.alloc (.cells #[.int .i64 dv] 2)).drew.cell? ⟨q, 0, none⟩ = some (.int .i64 κ.g) ∧ (W3.alloc (.cells #[.int .i64 dv] 2)).drew.cell? ⟨q, 1, none⟩ = some (.int .i64 κ.n) ∧ (W3.alloc (.cells #[.int .i64 dv] 2)).drew.cell? ⟨q, 2, none⟩ = some (.int .i64 κ.i) ∧ (W3.alloc (.cells #[.int .i64 dv] 2)).drew.cell? ⟨ob, 5, none⟩ = some (.int .i64 dv)) := (HR.out.later (below_alloc W3 (.cells #[.int .i64 dv] 2) W3.heap.size (Nat.le_refl _)).drew).seven
              have HC : Hid (Calls Tryz.prog 23 #[.pointer (some ⟨l1, 0, none⟩), .agg #[.int .i64 κ.g, .int .i64 κ.n, .int .i64 κ.i], .slice (some ⟨W3.heap.size, 0, none⟩) 1 1] (W3.alloc (.cells #[.int .i64 dv] 2)).drew fun e w' => e = .returned (.int .i64 0) ∧ Hid (Rn w w' ob q mm s v1 l1 d1 r (doQ a ⟨3, κ, 0, dv⟩) a (20 + t + 1) ⟨dc, kd, df, dv, da, dn, dp, dz⟩ κ (.cells #[.int .i64 0, .int .i64 0, .int .i64 0, .int .i64 0, .int .i64 0, .int .i64 0] 55 (0, 0))) ∧ (w'.cell? ⟨s, 0, none⟩ = some (.pointer (some ⟨v1, 0, none⟩)) ∧ w'.cell? ⟨s, 1, none⟩ = some (.pointer (some ⟨l1, 0, none⟩)) ∧ w'.cell? ⟨s, 2, none⟩ = some (.pointer (some ⟨d1, 0, none⟩)) ∧ w'.cell? ⟨q, 0, none⟩ = some (.int .i64 κ.g) ∧ w'.cell? ⟨q, 1, none⟩ = some (.int .i64 κ.n) ∧ w'.cell? ⟨q, 2, none⟩ = some (.int .i64 κ.i) ∧ w'.cell? ⟨ob, 5, none⟩ = some (.int .i64 dv))) := by
                have h := HR.out.later (below_alloc W3 (.cells #[.int .i64 dv] 2) W3.heap.size (Nat.le_refl _)).drew
                refine Calls.mono (h.t.push κ dv _ _ ((rd_one dv W3).later (Below.refl _ _).drew) (by have := HL.out κ; omega)) ?_
                rintro e w' ⟨r1, r2, r3⟩
                have h' := h.keep r2 r3
                exact ⟨r1, h', h'.seven⟩
              have HMX : Hid (mayB (⟨3, κ, 0, dv⟩ : Mq).m = true) := by show _ = _; simp [Mq.m, mayB, kindB, fieldB, hasF, valueB, hasV, HKI.out]
              clear HR HKI HL y4 y0
              go_wp2
              go_region_held3 (fun w' => w'.cell? ⟨s, 0, none⟩ = some (.pointer (some ⟨v1, 0, none⟩)) ∧ w'.cell? ⟨s, 1, none⟩ = some (.pointer (some ⟨l1, 0, none⟩)) ∧ w'.cell? ⟨s, 2, none⟩ = some (.pointer (some ⟨d1, 0, none⟩)) ∧ w'.cell? ⟨q, 0, none⟩ = some (.int .i64 κ.g) ∧ w'.cell? ⟨q, 1, none⟩ = some (.int .i64 κ.n) ∧ w'.cell? ⟨q, 2, none⟩ = some (.int .i64 κ.i) ∧ w'.cell? ⟨ob, 5, none⟩ = some (.int .i64 dv)) (first | with_reducible exact s0 | with_reducible exact s0b | with_reducible exact s1) ((go_at_call 23; with_reducible refine HC.out.mono ?_; rintro e W4 ⟨rfl, HR4, s1⟩))
              all_goals
                obtain ⟨_, _, _, _, _, _, t5⟩ := s1
                obtain ⟨m0, m1, m2, m3, m4, m5, fr⟩ := cells_six HR4.out.m
                have h6 := set6 HR4.out.m (.int .i64 3) (.int .i64 0) (.int .i64 0) (.int .i64 0) (.int .i64 0) (.int .i64 dv)
                have HS := hide (HR4.out.put h6.2 h6.1)
                clear h6 HR4 HC
                go_wp2
                go_meet
                case rel => exact ⟨⟨3, κ, 0, dv⟩, rfl, HMX.out, HS.out⟩
            · have b2 : (kt == 2) = false := by simp [k2]
              by_cases k3 : kt = 3
              · have b3 : (kt == 3) = true := by simp [k3]
                have s0 : (W3.drew.cell? ⟨s, 0, none⟩ = some (.pointer (some ⟨v1, 0, none⟩)) ∧ W3.drew.cell? ⟨s, 1, none⟩ = some (.pointer (some ⟨l1, 0, none⟩)) ∧ W3.drew.cell? ⟨s, 2, none⟩ = some (.pointer (some ⟨d1, 0, none⟩)) ∧ W3.drew.cell? ⟨q, 0, none⟩ = some (.int .i64 κ.g) ∧ W3.drew.cell? ⟨q, 1, none⟩ = some (.int .i64 κ.n) ∧ W3.drew.cell? ⟨q, 2, none⟩ = some (.int .i64 κ.i) ∧ W3.drew.cell? ⟨ob, 5, none⟩ = some (.int .i64 dv)) := (HR.out.later (Below.refl W3.heap.size W3).drew).seven
                have HC : Hid (Calls Tryz.prog 24 #[.pointer (some ⟨l1, 0, none⟩), .agg #[.int .i64 κ.g, .int .i64 κ.n, .int .i64 κ.i]] W3.drew fun e w' => e = .returned (.int .i64 (a.L κ).length) ∧ Hid (Rn w w' ob q mm s v1 l1 d1 r (doQ a ⟨4, κ, 0, 0⟩) a (20 + t + 1) ⟨dc, kd, df, dv, da, dn, dp, dz⟩ κ (.cells #[.int .i64 0, .int .i64 0, .int .i64 0, .int .i64 0, .int .i64 0, .int .i64 0] 55 (0, 0))) ∧ (w'.cell? ⟨s, 0, none⟩ = some (.pointer (some ⟨v1, 0, none⟩)) ∧ w'.cell? ⟨s, 1, none⟩ = some (.pointer (some ⟨l1, 0, none⟩)) ∧ w'.cell? ⟨s, 2, none⟩ = some (.pointer (some ⟨d1, 0, none⟩)) ∧ w'.cell? ⟨q, 0, none⟩ = some (.int .i64 κ.g) ∧ w'.cell? ⟨q, 1, none⟩ = some (.int .i64 κ.n) ∧ w'.cell? ⟨q, 2, none⟩ = some (.int .i64 κ.i) ∧ w'.cell? ⟨ob, 5, none⟩ = some (.int .i64 dv))) := by
                  have h := HR.out.later (Below.refl W3.heap.size W3).drew
                  refine Calls.mono (h.t.clear κ) ?_
                  rintro e w' ⟨r1, r2, r3⟩
                  have h' := h.keep r2 r3
                  exact ⟨r1, h', h'.seven⟩
                have HMX : Hid (mayB (⟨4, κ, 0, 0⟩ : Mq).m = true) := by show _ = _; simp [Mq.m, mayB, kindB, fieldB, hasF, valueB, hasV, HKI.out]
                clear HR HKI HL y4 y0
                go_wp2
                go_region_held3 (fun w' => w'.cell? ⟨s, 0, none⟩ = some (.pointer (some ⟨v1, 0, none⟩)) ∧ w'.cell? ⟨s, 1, none⟩ = some (.pointer (some ⟨l1, 0, none⟩)) ∧ w'.cell? ⟨s, 2, none⟩ = some (.pointer (some ⟨d1, 0, none⟩)) ∧ w'.cell? ⟨q, 0, none⟩ = some (.int .i64 κ.g) ∧ w'.cell? ⟨q, 1, none⟩ = some (.int .i64 κ.n) ∧ w'.cell? ⟨q, 2, none⟩ = some (.int .i64 κ.i) ∧ w'.cell? ⟨ob, 5, none⟩ = some (.int .i64 dv)) (first | with_reducible exact s0 | with_reducible exact s1) ((go_at_call 24; with_reducible refine HC.out.mono ?_; rintro e W4 ⟨rfl, HR4, s1⟩))
                all_goals
                  obtain ⟨_, _, _, _, _, _, t5⟩ := s1
                  obtain ⟨m0, m1, m2, m3, m4, m5, fr⟩ := cells_six HR4.out.m
                  have h6 := set6 HR4.out.m (.int .i64 4) (.int .i64 0) (.int .i64 0) (.int .i64 0) (.int .i64 0) (.int .i64 0)
                  have HS := hide (HR4.out.put h6.2 h6.1)
                  clear h6 HR4 HC
                  go_wp2
                  go_meet
                  case rel => exact ⟨⟨4, κ, 0, 0⟩, rfl, HMX.out, HS.out⟩
              · have b3 : (kt == 3) = false := by simp [k3]
                by_cases k4 : kt = 4
                · have b4 : (kt == 4) = true := by simp [k4]
                  have s0 : (W3.drew.cell? ⟨s, 0, none⟩ = some (.pointer (some ⟨v1, 0, none⟩)) ∧ W3.drew.cell? ⟨s, 1, none⟩ = some (.pointer (some ⟨l1, 0, none⟩)) ∧ W3.drew.cell? ⟨s, 2, none⟩ = some (.pointer (some ⟨d1, 0, none⟩)) ∧ W3.drew.cell? ⟨q, 0, none⟩ = some (.int .i64 κ.g) ∧ W3.drew.cell? ⟨q, 1, none⟩ = some (.int .i64 κ.n) ∧ W3.drew.cell? ⟨q, 2, none⟩ = some (.int .i64 κ.i) ∧ W3.drew.cell? ⟨ob, 5, none⟩ = some (.int .i64 dv)) := (HR.out.later (Below.refl W3.heap.size W3).drew).seven
                  have HC : Hid (Calls Tryz.prog 10 #[.pointer (some ⟨d1, 0, none⟩), .agg #[.int .i64 κ.g, .int .i64 κ.n, .int .i64 κ.i], .int .i64 (i : Int), .int .i64 dv] W3.drew fun e w' => e = .returned (.int .i64 0) ∧ Hid (Rn w w' ob q mm s v1 l1 d1 r (doQ a ⟨5, κ, (i : Int), dv⟩) a (20 + t + 1) ⟨dc, kd, df, dv, da, dn, dp, dz⟩ κ (.cells #[.int .i64 0, .int .i64 0, .int .i64 0, .int .i64 0, .int .i64 0, .int .i64 0] 55 (0, 0))) ∧ (w'.cell? ⟨s, 0, none⟩ = some (.pointer (some ⟨v1, 0, none⟩)) ∧ w'.cell? ⟨s, 1, none⟩ = some (.pointer (some ⟨l1, 0, none⟩)) ∧ w'.cell? ⟨s, 2, none⟩ = some (.pointer (some ⟨d1, 0, none⟩)) ∧ w'.cell? ⟨q, 0, none⟩ = some (.int .i64 κ.g) ∧ w'.cell? ⟨q, 1, none⟩ = some (.int .i64 κ.n) ∧ w'.cell? ⟨q, 2, none⟩ = some (.int .i64 κ.i) ∧ w'.cell? ⟨ob, 5, none⟩ = some (.int .i64 dv))) := by
                    have h := HR.out.later (Below.refl W3.heap.size W3).drew
                    refine Calls.mono (h.t.put κ (i : Int) dv (by omega) (by omega)) ?_
                    rintro e w' ⟨r1, r2, r3⟩
                    have h' := h.keep r2 r3
                    exact ⟨r1, h', h'.seven⟩
                  have HMX : Hid (mayB (⟨5, κ, (i : Int), dv⟩ : Mq).m = true) := by show _ = _; simp [Mq.m, mayB, kindB, fieldB, hasF, inR, valueB, hasV, HKI.out, sr2]
                  clear HR HKI HL y4 y0
                  go_wp2
                  go_region_held3 (fun w' => w'.cell? ⟨s, 0, none⟩ = some (.pointer (some ⟨v1, 0, none⟩)) ∧ w'.cell? ⟨s, 1, none⟩ = some (.pointer (some ⟨l1, 0, none⟩)) ∧ w'.cell? ⟨s, 2, none⟩ = some (.pointer (some ⟨d1, 0, none⟩)) ∧ w'.cell? ⟨q, 0, none⟩ = some (.int .i64 κ.g) ∧ w'.cell? ⟨q, 1, none⟩ = some (.int .i64 κ.n) ∧ w'.cell? ⟨q, 2, none⟩ = some (.int .i64 κ.i) ∧ w'.cell? ⟨ob, 5, none⟩ = some (.int .i64 dv)) (first | with_reducible exact s0 | with_reducible exact s1) ((go_at_call 10; with_reducible refine HC.out.mono ?_; rintro e W4 ⟨rfl, HR4, s1⟩))
                  all_goals
                    obtain ⟨_, _, _, _, _, _, t5⟩ := s1
                    obtain ⟨m0, m1, m2, m3, m4, m5, fr⟩ := cells_six HR4.out.m
                    have h6 := set6 HR4.out.m (.int .i64 5) (.int .i64 0) (.int .i64 0) (.int .i64 0) (.int .i64 (i : Int)) (.int .i64 dv)
                    have HS := hide (HR4.out.put h6.2 h6.1)
                    clear h6 HR4 HC
                    go_wp2
                    go_meet
                    case rel => exact ⟨⟨5, κ, (i : Int), dv⟩, rfl, HMX.out, HS.out⟩
                · have b4 : (kt == 4) = false := by simp [k4]
                  have s0 : (W3.drew.cell? ⟨s, 0, none⟩ = some (.pointer (some ⟨v1, 0, none⟩)) ∧ W3.drew.cell? ⟨s, 1, none⟩ = some (.pointer (some ⟨l1, 0, none⟩)) ∧ W3.drew.cell? ⟨s, 2, none⟩ = some (.pointer (some ⟨d1, 0, none⟩)) ∧ W3.drew.cell? ⟨q, 0, none⟩ = some (.int .i64 κ.g) ∧ W3.drew.cell? ⟨q, 1, none⟩ = some (.int .i64 κ.n) ∧ W3.drew.cell? ⟨q, 2, none⟩ = some (.int .i64 κ.i) ∧ W3.drew.cell? ⟨ob, 5, none⟩ = some (.int .i64 dv)) := (HR.out.later (Below.refl W3.heap.size W3).drew).seven
                  have HC : Hid (Calls Tryz.prog 11 #[.pointer (some ⟨d1, 0, none⟩), .agg #[.int .i64 κ.g, .int .i64 κ.n, .int .i64 κ.i], .int .i64 (i : Int)] W3.drew fun e w' => e = .returned (.bool (hasT (a.D κ) (i : Int))) ∧ Hid (Rn w w' ob q mm s v1 l1 d1 r (doQ a ⟨6, κ, (i : Int), 0⟩) a (20 + t + 1) ⟨dc, kd, df, dv, da, dn, dp, dz⟩ κ (.cells #[.int .i64 0, .int .i64 0, .int .i64 0, .int .i64 0, .int .i64 0, .int .i64 0] 55 (0, 0))) ∧ (w'.cell? ⟨s, 0, none⟩ = some (.pointer (some ⟨v1, 0, none⟩)) ∧ w'.cell? ⟨s, 1, none⟩ = some (.pointer (some ⟨l1, 0, none⟩)) ∧ w'.cell? ⟨s, 2, none⟩ = some (.pointer (some ⟨d1, 0, none⟩)) ∧ w'.cell? ⟨q, 0, none⟩ = some (.int .i64 κ.g) ∧ w'.cell? ⟨q, 1, none⟩ = some (.int .i64 κ.n) ∧ w'.cell? ⟨q, 2, none⟩ = some (.int .i64 κ.i) ∧ w'.cell? ⟨ob, 5, none⟩ = some (.int .i64 dv))) := by
                    have h := HR.out.later (Below.refl W3.heap.size W3).drew
                    refine Calls.mono (h.t.cut κ (i : Int)) ?_
                    rintro e w' ⟨r1, r2, r3⟩
                    have h' := h.keep r2 r3
                    exact ⟨r1, h', h'.seven⟩
                  have HMX : Hid (mayB (⟨6, κ, (i : Int), 0⟩ : Mq).m = true) := by show _ = _; simp [Mq.m, mayB, kindB, fieldB, hasF, inR, valueB, hasV, HKI.out, sr2]
                  clear HR HKI HL y4 y0
                  go_wp2
                  go_region_held3 (fun w' => w'.cell? ⟨s, 0, none⟩ = some (.pointer (some ⟨v1, 0, none⟩)) ∧ w'.cell? ⟨s, 1, none⟩ = some (.pointer (some ⟨l1, 0, none⟩)) ∧ w'.cell? ⟨s, 2, none⟩ = some (.pointer (some ⟨d1, 0, none⟩)) ∧ w'.cell? ⟨q, 0, none⟩ = some (.int .i64 κ.g) ∧ w'.cell? ⟨q, 1, none⟩ = some (.int .i64 κ.n) ∧ w'.cell? ⟨q, 2, none⟩ = some (.int .i64 κ.i) ∧ w'.cell? ⟨ob, 5, none⟩ = some (.int .i64 dv)) (first | with_reducible exact s0 | with_reducible exact s1) ((go_at_call 11; with_reducible refine HC.out.mono ?_; rintro e W4 ⟨rfl, HR4, s1⟩))
                  all_goals
                    obtain ⟨_, _, _, _, _, _, t5⟩ := s1
                    obtain ⟨m0, m1, m2, m3, m4, m5, fr⟩ := cells_six HR4.out.m
                    have h6 := set6 HR4.out.m (.int .i64 6) (.int .i64 0) (.int .i64 0) (.int .i64 0) (.int .i64 (i : Int)) (.int .i64 0)
                    have HS := hide (HR4.out.put h6.2 h6.1)
                    clear h6 HR4 HC
                    go_wp2
                    go_meet
                    case rel => exact ⟨⟨6, κ, (i : Int), 0⟩, rfl, HMX.out, HS.out⟩
      case rest =>
        obtain ⟨x, rfl, hx, hR⟩ := hcut.out
        have HX := hide hx
        have HR := hide hR
        clear hcut hx hR y4 y0 HKI
        obtain ⟨xc, κ, xf, xv⟩ := x
        simp only at HR
        obtain ⟨k0, k1, k2⟩ := cells_three HR.out.k
        obtain ⟨m0, m1, m2, m3, m4, m5, fr⟩ := cells_six HR.out.m
        have h3 := setK HR.out.m (.int .i64 κ.g) (.int .i64 κ.n) (.int .i64 κ.i)
        have HS := hide (HR.out.put h3.2 h3.1)
        clear h3 HR
        go_upto_region 34 with fail
        generalize ((wc.setCell ⟨mm, 1, none⟩ (.int .i64 κ.g)).setCell ⟨mm, 2, none⟩ (.int .i64 κ.n)).setCell ⟨mm, 3, none⟩ (.int .i64 κ.i) = W5 at *
        clear k0 k1 k2 m0 m1 m2 m3 m4 m5 fr
        obtain ⟨m0, m1, m2, m3, m4, m5, _⟩ := cells_six HS.out.m
        have hT5 := (HS.out.t.drop (F' := fun _ => False) (fun _ e => e.elim)).later (below_alloc W5 (mtObj (⟨xc, κ, xf, xv⟩ : Mq).m) W5.heap.size (Nat.le_refl _))
        have HD : Hid (Calls Tryz.prog 19 #[.pointer (some ⟨r, 0, none⟩), .slice (some ⟨W5.heap.size, 0, none⟩) 1 1] (W5.alloc (.cells #[.int .i64 xc, .int .i64 κ.g, .int .i64 κ.n, .int .i64 κ.i, .int .i64 xf, .int .i64 xv] 55)) fun e w' => e = .returned (.int .i64 0) ∧ Hid (∃ a', Tw (fun _ => False) w w' s v1 l1 d1 r a' a' (20 + (t + 1)) ∧ ∀ k, (a'.L k).length ≤ 20 + (t + 1))) := by
          refine Calls.mono (hT5.do2w _ 1 1 [⟨xc, κ, xf, xv⟩] (Ms.one W5 _) (by omega)) ?_
          rintro e w' ⟨r1, r2, _⟩
          obtain ⟨e1, e2⟩ := d_one (a := a) HX.out (by have := HL.out κ; show (a.L κ).length < 100; omega)
          rw [e1] at r1
          rw [e2] at r2
          exact ⟨r1, _, r2, fun k => by have := doQ_len a ⟨xc, κ, xf, xv⟩ k; have := HL.out k; omega⟩
        clear hT5 HS HX HL
        go_wp2_with fail
        refine HD.out.mono ?_
        rintro e w6 ⟨rfl, HI⟩
        clear HD m0 m1 m2 m3 m4 m5
        obtain ⟨a', hT, hL⟩ := HI.out
        have HT := hide hT
        have HL := hide hL
        clear hT hL HI
        go_wp2_with fail
        refine (HT.out.cells1 (by omega)).mono ?_
        rintro e w7 ⟨v7, rfl, hC7, hT7, _⟩
        have HX7 := hide hC7
        have HT7 := hide hT7
        clear hC7 hT7 HT
        go_wp2_with fail
        refine (HT7.out.cells2).mono ?_
        rintro e w8 ⟨v8, rfl, hC8, hT8, hb8⟩
        have HX8 := hide (And.intro (HX7.out.later hb8) hC8)
        have HT8 := hide hT8
        clear hC8 hT8 hb8 HT7 HX7
        go_wp2_with fail
        refine (HT8.out.same HX8.out.1 HX8.out.2).mono ?_
        rintro e w9' ⟨rfl, hT9, _⟩
        have HN : Hid (∃ a, Tw (fun _ => False) w w9' s v1 l1 d1 r a a (20 + (t + 1)) ∧ ∀ k, (a.L k).length ≤ 20 + (t + 1)) := ⟨a', hT9, HL.out⟩
        clear hT9 HT8 HX8 HL
        go_wp2
        go_roundg (30 - (t + 1))
        case measure => omega
        case rel => exact ⟨t + 1, rfl, by omega, by omega, by simp, HN⟩
    · have hcs : (¬ t < n1) ∨ (t < n1 ∧ ¬ t < 30) := by omega
      have HF : Hid (Below w.heap.size w wr) := by obtain ⟨a, h, _⟩ := HI.out; exact h.bel
      clear hin HI HK
      rcases hcs with hh | ⟨hh, hh2⟩
      all_goals
        go_wp2
        go_ret
        exact ⟨rfl, HF.out⟩

theorem own : ownKnob Tryz.prog.godebug = none := by kernel_rfl
theorem laidOut : laidOutB Tryz.prog = true := by kernel_rfl

set_option maxRecDepth 100000 in
theorem lifted (os : Os) (started : os.Started) (H : Type) (enc : TypeId × Value → H) :
    ReturnsInHanded {} Tryz.checked os 4 .any (Rows.stateOwnSpec.pre6 enc Tryz.prog Tryz.f4 Rows.stateOwnRow.domain false) (Rows.stateOwnSpec.post enc Tryz.prog Tryz.f4 false true false false) := by
  refine returnsInHanded_of_change (C := Tryz.checked) own started (by kernel_rfl) Tryz.func4
    (ChangeSpec.witness6 (enc := enc) (C := Tryz.checked) false ⟨#[], #[.slice none 0 0, .slice none 0 0], []⟩ 8 (by kernel_rfl) (by kernel_rfl) (by kernel_rfl) (by kernel_rfl)) ?_
  intro W base args ds gs before hval0 hW hcnd _
  have hval : ∀ (j : Nat) t v, Tryz.f4.params[j]? = some t → args[j]? = some v → Value.okWide Tryz.prog W .any base t v := hval0
  have hW' := hW
  obtain ⟨p, q, hA0, hV, rfl, hfz, hnd⟩ := hW
  have hA : DataW.TrodAll enc Tryz.prog W 0 (fun _ => true) true Tryz.f4.params.toList args.toList ds p := hA0
  rw [Tryz.params4] at hA hval
  obtain ⟨v0, vs0, d0, ds0, p0, q0, hargs, rfl, rfl, h0, r0⟩ := trodAll_cons hA
  obtain ⟨v1, vs1, d1, ds1, p1, q1, rfl, rfl, rfl, h1, r1⟩ := trodAll_cons r0
  obtain ⟨rfl, rfl, rfl⟩ := trodAll_nil r1
  obtain rfl : args = #[v0, v1] := by cases args; simp_all
  obtain ⟨rfl, rfl⟩ := trodVars_none hV
  obtain ⟨a0, n0, c0, rfl⟩ := okWide_slice Tryz.underlying46 (hval 0 46 v0 rfl rfl)
  have k0 := h0
  have lt0 : ∀ x ∈ p0, x.block < W.heap.size := by obtain ⟨m, hm⟩ := k0; exact DataW.trod_lt m _ _ _ hm
  obtain ⟨z0, w0⟩ : ∃ xs : List Mq, Ms W a0 n0 (xs.map Mq.m) ∧ (∀ x ∈ xs, wfQ x) ∧ n0 ≤ c0 ∧ c0 ≤ 9223372036854775807 := by
    obtain ⟨fuel, hf⟩ := h0
    rcases open_mqs hf with hcs | ⟨x, l, c, ms, hcs, hl, hm, hM, hw⟩
    · simp [Value.cells] at hcs; obtain ⟨rfl, rfl, rfl⟩ := hcs; exact ⟨[], ⟨rfl, fun h => absurd h (Nat.lt_irrefl 0)⟩, by simp, Nat.le_refl _, by omega⟩
    · simp [Value.cells] at hcs; obtain ⟨rfl, rfl, rfl⟩ := hcs; exact ⟨ms, hM, hw, hl, by simpa [maxLen] using hm⟩
  obtain ⟨a1, n1, c1, rfl⟩ := okWide_slice Tryz.underlying22 (hval 1 22 v1 rfl rfl)
  have k1 := h1
  have lt1 : ∀ x ∈ p1, x.block < W.heap.size := by obtain ⟨m, hm⟩ := k1; exact DataW.trod_lt m _ _ _ hm
  obtain ⟨z1, w1⟩ : ∃ ds, Kos W a1 n1 ds ∧ (∀ d ∈ ds, wfKo W d) ∧ n1 ≤ c1 ∧ c1 ≤ 9223372036854775807 := by
    obtain ⟨fuel, hf⟩ := h1
    rcases open_kops hf with hcs | ⟨x, l, c, ms, hcs, hl, hm, hM, hw⟩
    · simp [Value.cells] at hcs; obtain ⟨rfl, rfl, rfl⟩ := hcs; exact ⟨[], ⟨rfl, fun h => absurd h (Nat.lt_irrefl 0)⟩, by simp, Nat.le_refl _, by omega⟩
    · simp [Value.cells] at hcs; obtain ⟨rfl, rfl, rfl⟩ := hcs; exact ⟨ms, hM, hw, hl, by simpa [maxLen] using hm⟩
  clear hA0 hval0
  refine (walk a0 n0 c0 z0 a1 n1 c1 z1 W w0.1 w0.2.1 w0.2.2.1 w0.2.2.2 w1.1 w1.2.1 w1.2.2.1 w1.2.2.2).mono fun e W' ⟨he, bel⟩ => ?_
  subst he
  exact ⟨_, rfl, _, _, _, [], _, [], hW', trodAll_mk1 (shut_bool Tryz.underlying4 _), (trodAll_cons_mk (Below.trod laidOut (by kernel_rfl) (of_decide_eq_true (by kernel_rfl)) k0 bel lt0) (trodAll_cons_mk (Below.trod laidOut (by kernel_rfl) (of_decide_eq_true (by kernel_rfl)) k1 bel lt1) trodAll_mk0)), rfl, bel.frame _, fun h => by cases h⟩

theorem over : Rows.stateOwnRow.holds Tryz.pinned (OpenSpec.ofChange Rows.stateOwnSpec) :=
  OpenClaim.holds_of_wide 4 Tryz.f4 rfl rfl rfl rfl rfl rfl rfl ⟨rfl, rfl, rfl, rfl, rfl⟩ rfl rfl rfl rfl rfl (by kernel_rfl) Tryz.func4 (by kernel_rfl)
    (of_decide_eq_true (by kernel_rfl)) (by unfold Func.isWrapper; first | (rw [if_pos (by decide +kernel)]; kernel_rfl) | (rw [if_neg (by decide +kernel)]; exact ⟨rfl, rfl⟩))
    (fun os started H enc _ => lifted os started H enc)

theorem proved : Rows.StateOwnSaid := over
#print axioms proved
end Go.Proofs.YtiofkcmdgijjoaaGreat.stateOwn
