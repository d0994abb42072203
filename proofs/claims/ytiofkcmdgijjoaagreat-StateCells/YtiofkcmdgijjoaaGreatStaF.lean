/- Cells laid into a state, wherever they lie. -/
import Derived.Test.YtiofkcmdgijjoaaGreatStaE
import Derived.Test.YtiofkcmdgijjoaaGreatRefZ
namespace Go.Proofs.YtiofkcmdgijjoaaGreat
open Go.RowKit Go.MapKept Go.ChangeMaps

/-- In the midst of filling: the state; the blocks E that are the walk's own. -/
structure Mf (w W : World) (O E : Nat → Prop) (s gv gl gd : Nat) (b : Ab) (M : Nat) : Prop where
  st : AbS W (fun j => O j ∧ ¬ E j) s gv gl gd b M
  lt : ∀ j, E j → j < W.heap.size
  tch : Tch O w W
section
variable {w W : World} {O E : Nat → Prop} {s gv gl gd M : Nat} {b : Ab}
theorem Mf.later {W' : World} (h : Mf w W O E s gv gl gd b M) (hb : Below W.heap.size W W') : Mf w W' O E s gv gl gd b M :=
  ⟨StaS.later h.st hb, fun j hj => Nat.lt_of_lt_of_le (h.lt j hj) hb.size, h.tch.trans (Below.tch hb)⟩
theorem Mf.drew (h : Mf w W O E s gv gl gd b M) : Mf w W.drew O E s gv gl gd b M := h.later (Below.refl _ _).drew
theorem Mf.box (h : Mf w W O E s gv gl gd b M) (o : Obj) : Mf w (W.alloc o) O (fun j => E j ∨ j = W.heap.size) s gv gl gd b M := by
  have hb := below_alloc W o W.heap.size (Nat.le_refl _)
  have h1 := h.later hb
  refine ⟨StaS.later (StaS.wide h.st (O' := fun j => O j ∧ ¬ (E j ∨ j = W.heap.size)) (fun j hj hl => ⟨hj.1, fun e => ?_⟩)) hb, ?_, h1.tch⟩
  · rcases e with e | e
    · exact hj.2 e
    · omega
  · rintro j (e | e)
    · exact h1.lt j e
    · subst e; simp
theorem Mf.drop {E' : Nat → Prop} (h : Mf w W O E s gv gl gd b M) (hE : ∀ j, E' j → E j) : Mf w W O E' s gv gl gd b M :=
  ⟨StaS.wide h.st (fun j hj _ => ⟨hj.1, fun e => hj.2 (hE j e)⟩), fun j hj => h.lt j (hE j hj), h.tch⟩
theorem Mf.turn {W' : World} {b' : Ab} {M' : Nat} (h : Mf w W O E s gv gl gd b M) (hs : AbS W' (fun j => O j ∧ ¬ E j) s gv gl gd b' M') (ht : Tch (fun j => O j ∧ ¬ E j) W W') : Mf w W' O E s gv gl gd b' M' :=
  ⟨hs, fun j hj => Nat.lt_of_lt_of_le (h.lt j hj) ht.size, h.tch.trans (ht.mono (fun _ _ e => e.1))⟩
theorem Mf.out (h : Mf w W O E s gv gl gd b M) (hO : ∀ k, w.heap.size ≤ k → O k) : ∀ k, W.heap.size ≤ k → O k ∧ ¬ E k :=
  fun k hk => ⟨hO k (Nat.le_trans h.tch.size hk), fun e => by have := h.lt k e; omega⟩
end

/-- A row of cells that can be read whatever turns among O. -/
def RdK (w : World) (O : Nat → Prop) (v : Value) (cs : List Cl) : Prop := ∃ pa cap, v = .slice pa cs.length cap ∧ (0 < cs.length → ∃ b o, pa = some ⟨b, o, none⟩ ∧ ∀ (i : Nat) x, cs[i]? = some x → ∃ lp lc dp dc, ∀ W, Tch O w W →
  W.cell? ⟨b, o + i * 7, none⟩ = some (.int .i64 x.k.g) ∧ W.cell? ⟨b, o + i * 7 + 1, none⟩ = some (.int .i64 x.k.n) ∧ W.cell? ⟨b, o + i * 7 + 2, none⟩ = some (.int .i64 x.k.i) ∧ W.cell? ⟨b, o + i * 7 + 3, none⟩ = some (.bool x.v.isSome) ∧ W.cell? ⟨b, o + i * 7 + 4, none⟩ = some (.int .i64 (x.v.getD 0)) ∧
  W.cell? ⟨b, o + i * 7 + 5, none⟩ = some (.slice lp x.l.length lc) ∧ W.cell? ⟨b, o + i * 7 + 6, none⟩ = some (.slice dp x.d.length dc) ∧ Rd W lp x.l.length lc x.l ∧ RdF W dp x.d.length dc x.d)
/-- Rows that lay there ahead of all of O. -/
theorem RdC.rdK {w0 w : World} {O : Nat → Prop} {v : Value} {cs : List Cl} (h : RdC w0 v cs) (hb : Below w0.heap.size w0 w) (hO : ∀ k, O k → w0.heap.size ≤ k) : RdK w O v cs := by
  obtain ⟨pa, cap, rfl, h2⟩ := h
  refine ⟨pa, cap, rfl, fun h0 => ?_⟩
  obtain ⟨b, o, rfl, h3⟩ := h2 h0
  refine ⟨b, o, rfl, fun i x hx => ?_⟩
  obtain ⟨lp, lc, dp, dc, q0, q1, q2, q3, q4, q5, q6, r1, r2⟩ := h3 i x hx
  refine ⟨lp, lc, dp, dc, fun W hW => ?_⟩
  have hbW : Below w0.heap.size w0 W := hb.trans (hW.below (fun k hk e => by have := hO k e; omega) hb.size)
  exact ⟨same_cell hbW q0, same_cell hbW q1, same_cell hbW q2, same_cell hbW q3, same_cell hbW q4, same_cell hbW q5, same_cell hbW q6, r1.later hbW, r2.later hbW⟩

set_option maxRecDepth 100000 in
set_option maxHeartbeats 8000000 in
/-- fill. -/
theorem fill_rd (O : Nat → Prop) (s gv gl gd : Nat) (a : Ab) (N : Nat) (v : Value) (cs : List Cl) (w : World) (h : AbS w O s gv gl gd a N) (hO : ∀ k, w.heap.size ≤ k → O k) (hX : RdK w O v cs) (hf : FillOK a cs) (hlen : cs.length ≤ 100000) :
    Calls Tryz.prog 56 #[.pointer (some ⟨s, 0, none⟩), v] w fun e w' => e = .returned (.tuple #[]) ∧ Hid ((∃ M, AbS w' O s gv gl gd (fillA a cs) M) ∧ Tch O w w') := by
  have HO := hide hO
  have HX := hide hX
  have HF := hide hf
  have HM0 : Hid (Mf w w O (fun _ => False) s gv gl gd (fillA a (cs.take 0)) N) := ⟨StaS.wide h (fun j hj _ => ⟨hj, fun e => e⟩), fun _ e => e.elim, Below.tch (Below.refl _ _)⟩
  obtain ⟨pa, cp, rfl, _⟩ := hX
  clear h hO hf
  obtain ⟨N0, hN0⟩ : ∃ n, cs.length = n := ⟨_, rfl⟩
  rw [hN0] at HX hlen ⊢
  have HN := hide hN0
  clear hN0
  go_enter Tryz.func56, Tryz.ntmps56
  go_wp2_with fail
  go_loopg [10] N0 (fun gm i wr => ∃ n M : Nat, gm = N0 - n ∧ n ≤ N0 ∧ i = .int .i64 n ∧ Hid (Mf w wr O (fun _ => False) s gv gl gd (fillA a (cs.take n)) M))
  case atStart => exact ⟨0, N, rfl, by omega, rfl, HM0⟩
  case round =>
    clear HM0
    obtain ⟨n, M, rfl, hn, rfl, HM⟩ := hrel
    by_cases hlt : n < N0
    · obtain ⟨x, hx⟩ : ∃ x, cs[n]? = some x := ⟨_, List.getElem?_eq_getElem (by rw [HN.out]; exact hlt)⟩
      obtain ⟨pa', cp', e', hcc⟩ := HX.out
      obtain ⟨rfl, -, rfl⟩ : pa = pa' ∧ N0 = cs.length ∧ cp = cp' := by simpa using e'
      obtain ⟨g, o, rfl, hcx⟩ := hcc (by rw [HN.out]; omega)
      obtain ⟨lx, cx, dx, fx, hall⟩ := hcx n x hx
      obtain ⟨p0, p1, p2, p3, p4, p5, p6, _, _⟩ := hall wr HM.out.tch
      have HRW : Hid (∀ W, Tch O w W → Rd W lx x.l.length cx x.l ∧ RdF W dx x.d.length fx x.d) := fun W hW => by
        obtain ⟨_, _, _, _, _, _, _, r1, r2⟩ := hall W hW
        exact ⟨r1, r2⟩
      have HXM := hide (List.mem_of_getElem? hx)
      have HTK := hide (fillA_take a hx)
      have HRM : Hid (((fillA a (cs.take n)).L x.k).length + x.l.length ≤ 100) := HF.out.room n _ hx
      have HDK : Hid ((∀ m, RiseF (putD (fillA a (cs.take n)).D x.k (x.d.take m) x.k) ∧ (putD (fillA a (cs.take n)).D x.k (x.d.take m) x.k).length ≤ 100) ∧ (∀ p ∈ x.d, 0 ≤ p.1 ∧ p.1 < 8) ∨ x.d = []) := by
        rcases HF.out.dict with ⟨_, d2, d3⟩ | d
        · exact Or.inl ⟨d2 n _ hx, d3 _ HXM.out⟩
        · exact Or.inr (d _ HXM.out)
      have hds : x.d.length ≤ 1000 := HF.out.short _ HXM.out
      clear hx hcc hcx e' HXM hall
      generalize fillA a (cs.take n) = b at *
      obtain ⟨xk, xv, xl, xd⟩ := x
      unfold fillQ at HTK
      simp only at p0 p1 p2 p3 p4 p5 p6 HRW HRM HDK HTK hds
      generalize xv.isSome = xh at *
      generalize xv.getD 0 = xn at *
      obtain ⟨ln, hln⟩ : ∃ n, xl.length = n := ⟨_, rfl⟩
      obtain ⟨dn, hdn⟩ : ∃ n, xd.length = n := ⟨_, rfl⟩
      rw [hln] at p5 HRW HRM
      rw [hdn] at p6 HRW hds
      have HDN := hide hdn
      clear hln hdn
      have HB0 := hide (HM.out.box (.cells #[.int .i64 xk.g, .int .i64 xk.n, .int .i64 xk.i, .bool xh, .int .i64 xn, .slice lx ln cx, .slice dx dn fx] 73))
      have hbox := heap_alloc_new wr (.cells #[.int .i64 xk.g, .int .i64 xk.n, .int .i64 xk.i, .bool xh, .int .i64 xn, .slice lx ln cx, .slice dx dn fx] 73)
      obtain ⟨bx, hbx⟩ : ∃ bx, wr.heap.size = bx := ⟨_, rfl⟩
      rw [hbx] at HB0 hbox
      have HC1 : Hid (∀ W M b, Mf w W O (fun j => False ∨ j = bx) s gv gl gd b M → W.heap[bx]? = some (.cells #[.int .i64 xk.g, .int .i64 xk.n, .int .i64 xk.i, .bool xh, .int .i64 xn, .slice lx ln cx, .slice dx dn fx] 73 (0, 0)) → Calls Tryz.prog 21 #[.pointer (some ⟨gv, 0, none⟩), .agg #[.int .i64 xk.g, .int .i64 xk.n, .int .i64 xk.i], .int .i64 xn] W fun e w' => e = .returned (.tuple #[]) ∧ Hid (Mf w w' O (fun j => False ∨ j = bx) s gv gl gd ⟨updK b.V xk (some xn), b.L, b.D⟩ (M + 1) ∧ w'.heap[bx]? = some (.cells #[.int .i64 xk.g, .int .i64 xk.n, .int .i64 xk.i, .bool xh, .int .i64 xn, .slice lx ln cx, .slice dx dn fx] 73 (0, 0))) ∧ (w'.cell? ⟨s, 0, none⟩ = some (.pointer (some ⟨gv, 0, none⟩)) ∧ w'.cell? ⟨s, 1, none⟩ = some (.pointer (some ⟨gl, 0, none⟩)) ∧ w'.cell? ⟨s, 2, none⟩ = some (.pointer (some ⟨gd, 0, none⟩)) ∧ w'.cell? ⟨bx, 0, none⟩ = some (.int .i64 xk.g) ∧ w'.cell? ⟨bx, 1, none⟩ = some (.int .i64 xk.n) ∧ w'.cell? ⟨bx, 2, none⟩ = some (.int .i64 xk.i) ∧ w'.cell? ⟨bx, 3, none⟩ = some (.bool xh) ∧ w'.cell? ⟨bx, 4, none⟩ = some (.int .i64 xn) ∧ w'.cell? ⟨bx, 5, none⟩ = some (.slice lx ln cx) ∧ w'.cell? ⟨bx, 6, none⟩ = some (.slice dx dn fx))) := fun W M b hM hbx => by
        refine Calls.mono (stSet _ s gv gl gd M b xk xn W hM.st (hM.out HO.out)) ?_
        rintro e w' ⟨r1, r2, r3⟩
        have m' := hM.turn r2 r3
        have hb' := r3.old hbx (fun e => e.2 (Or.inr rfl))
        exact ⟨r1, ⟨m', hb'⟩, mid_cells (StaS.obj m'.st) hb'⟩
      have HC2 : Hid (∀ W M b, Mf w W O (fun j => False ∨ j = bx) s gv gl gd b M → (b.L xk).length + ln ≤ 100 → W.heap[bx]? = some (.cells #[.int .i64 xk.g, .int .i64 xk.n, .int .i64 xk.i, .bool xh, .int .i64 xn, .slice lx ln cx, .slice dx dn fx] 73 (0, 0)) → Calls Tryz.prog 23 #[.pointer (some ⟨gl, 0, none⟩), .agg #[.int .i64 xk.g, .int .i64 xk.n, .int .i64 xk.i], .slice lx ln cx] W fun e w' => e = .returned (.int .i64 0) ∧ Hid (Mf w w' O (fun j => False ∨ j = bx) s gv gl gd ⟨b.V, updR b.L xk (b.L xk ++ xl), b.D⟩ (M + 1) ∧ w'.heap[bx]? = some (.cells #[.int .i64 xk.g, .int .i64 xk.n, .int .i64 xk.i, .bool xh, .int .i64 xn, .slice lx ln cx, .slice dx dn fx] 73 (0, 0))) ∧ (w'.cell? ⟨s, 0, none⟩ = some (.pointer (some ⟨gv, 0, none⟩)) ∧ w'.cell? ⟨s, 1, none⟩ = some (.pointer (some ⟨gl, 0, none⟩)) ∧ w'.cell? ⟨s, 2, none⟩ = some (.pointer (some ⟨gd, 0, none⟩)) ∧ w'.cell? ⟨bx, 0, none⟩ = some (.int .i64 xk.g) ∧ w'.cell? ⟨bx, 1, none⟩ = some (.int .i64 xk.n) ∧ w'.cell? ⟨bx, 2, none⟩ = some (.int .i64 xk.i) ∧ w'.cell? ⟨bx, 3, none⟩ = some (.bool xh) ∧ w'.cell? ⟨bx, 4, none⟩ = some (.int .i64 xn) ∧ w'.cell? ⟨bx, 5, none⟩ = some (.slice lx ln cx) ∧ w'.cell? ⟨bx, 6, none⟩ = some (.slice dx dn fx))) := fun W M b hM hroom hbx => by
        refine Calls.mono (stPush _ s gv gl gd M b xk _ _ _ xl W hM.st (hM.out HO.out) (HRW.out W hM.tch).1 hroom) ?_
        rintro e w' ⟨r1, r2, r3⟩
        have m' := hM.turn r2 r3
        have hb' := r3.old hbx (fun e => e.2 (Or.inr rfl))
        exact ⟨r1, ⟨m', hb'⟩, mid_cells (StaS.obj m'.st) hb'⟩
      have HBX := hide hbox
      clear hbox HM
      have hnz : (n : Int) < (N0 : Int) := by omega
      go_upto_if 15 with fail
      clear p0 p1 p2 p3 p4 p5 p6
      try rw [hbx]
      generalize wr.alloc (.cells #[.int .i64 xk.g, .int .i64 xk.n, .int .i64 xk.i, .bool xh, .int .i64 xn, .slice lx ln cx, .slice dx dn fx] 73) = WA at *
      clear hbx
      obtain ⟨bV, hbV⟩ : ∃ bV, bV = (if xh = true then updK b.V xk (some xn) else b.V) := ⟨_, rfl⟩
      rw [← hbV] at HTK
      go_cut [] from 16 to 24 (fun wx => Hid (Mf w wx O (fun j => False ∨ j = bx) s gv gl gd ⟨bV, b.L, b.D⟩ (M + 1) ∧ wx.heap[bx]? = some (.cells #[.int .i64 xk.g, .int .i64 xk.n, .int .i64 xk.i, .bool xh, .int .i64 xn, .slice lx ln cx, .slice dx dn fx] 73 (0, 0))))
      case first =>
        have HB0d := hide HB0.out.drew
        cases xh with
        | false =>
          have HR : Hid (Mf w WA O (fun j => False ∨ j = bx) s gv gl gd ⟨bV, b.L, b.D⟩ (M + 1) ∧ WA.heap[bx]? = some (.cells #[.int .i64 xk.g, .int .i64 xk.n, .int .i64 xk.i, .bool false, .int .i64 xn, .slice lx ln cx, .slice dx dn fx] 73 (0, 0))) := by
            rw [hbV]
            exact ⟨⟨StaS.more HB0.out.st (Nat.le_succ _), HB0.out.lt, HB0.out.tch⟩, HBX.out⟩
          clear HC1 HC2 HB0 HBX HB0d
          go_wp2
          go_meet
          case rel => exact HR
        | true =>
          have HBXd : Hid (WA.drew.heap[bx]? = some (.cells #[.int .i64 xk.g, .int .i64 xk.n, .int .i64 xk.i, .bool true, .int .i64 xn, .slice lx ln cx, .slice dx dn fx] 73 (0, 0))) := HBX.out
          have s0d : WA.drew.cell? ⟨s, 0, none⟩ = some (.pointer (some ⟨gv, 0, none⟩)) ∧ WA.drew.cell? ⟨s, 1, none⟩ = some (.pointer (some ⟨gl, 0, none⟩)) ∧ WA.drew.cell? ⟨s, 2, none⟩ = some (.pointer (some ⟨gd, 0, none⟩)) ∧ WA.drew.cell? ⟨bx, 0, none⟩ = some (.int .i64 xk.g) ∧ WA.drew.cell? ⟨bx, 1, none⟩ = some (.int .i64 xk.n) ∧ WA.drew.cell? ⟨bx, 2, none⟩ = some (.int .i64 xk.i) ∧ WA.drew.cell? ⟨bx, 3, none⟩ = some (.bool true) ∧ WA.drew.cell? ⟨bx, 4, none⟩ = some (.int .i64 xn) ∧ WA.drew.cell? ⟨bx, 5, none⟩ = some (.slice lx ln cx) ∧ WA.drew.cell? ⟨bx, 6, none⟩ = some (.slice dx dn fx) := mid_cells (StaS.obj HB0d.out.st) HBXd.out
          have hbV2 : bV = updK b.V xk (some xn) := by rw [hbV]; rfl
          clear hbV
          subst hbV2
          go_upto_region 4 with fail
          go_region_held3 (fun w' => w'.cell? ⟨s, 0, none⟩ = some (.pointer (some ⟨gv, 0, none⟩)) ∧ w'.cell? ⟨s, 1, none⟩ = some (.pointer (some ⟨gl, 0, none⟩)) ∧ w'.cell? ⟨s, 2, none⟩ = some (.pointer (some ⟨gd, 0, none⟩)) ∧ w'.cell? ⟨bx, 0, none⟩ = some (.int .i64 xk.g) ∧ w'.cell? ⟨bx, 1, none⟩ = some (.int .i64 xk.n) ∧ w'.cell? ⟨bx, 2, none⟩ = some (.int .i64 xk.i) ∧ w'.cell? ⟨bx, 3, none⟩ = some (.bool true) ∧ w'.cell? ⟨bx, 4, none⟩ = some (.int .i64 xn) ∧ w'.cell? ⟨bx, 5, none⟩ = some (.slice lx ln cx) ∧ w'.cell? ⟨bx, 6, none⟩ = some (.slice dx dn fx)) (first | with_reducible exact s0d | with_reducible exact s1) ((go_at_call 21; with_reducible refine (HC1.out _ _ _ HB0d.out HBXd.out).mono ?_; rintro e W1 ⟨rfl, HM1, s1⟩))
          all_goals
            go_wp2
            go_meet
            case rel => exact HM1
      case rest =>
        have HM1 := hcut
        clear hcut HC1 HB0 HBX hbV
        have HM1d := hide HM1.out.1.drew
        have HM1x : Hid (wc.drew.heap[bx]? = some (.cells #[.int .i64 xk.g, .int .i64 xk.n, .int .i64 xk.i, .bool xh, .int .i64 xn, .slice lx ln cx, .slice dx dn fx] 73 (0, 0))) := HM1.out.2
        have s1d : wc.drew.cell? ⟨s, 0, none⟩ = some (.pointer (some ⟨gv, 0, none⟩)) ∧ wc.drew.cell? ⟨s, 1, none⟩ = some (.pointer (some ⟨gl, 0, none⟩)) ∧ wc.drew.cell? ⟨s, 2, none⟩ = some (.pointer (some ⟨gd, 0, none⟩)) ∧ wc.drew.cell? ⟨bx, 0, none⟩ = some (.int .i64 xk.g) ∧ wc.drew.cell? ⟨bx, 1, none⟩ = some (.int .i64 xk.n) ∧ wc.drew.cell? ⟨bx, 2, none⟩ = some (.int .i64 xk.i) ∧ wc.drew.cell? ⟨bx, 3, none⟩ = some (.bool xh) ∧ wc.drew.cell? ⟨bx, 4, none⟩ = some (.int .i64 xn) ∧ wc.drew.cell? ⟨bx, 5, none⟩ = some (.slice lx ln cx) ∧ wc.drew.cell? ⟨bx, 6, none⟩ = some (.slice dx dn fx) := mid_cells (StaS.obj HM1.out.1.drew.st) HM1x.out
        have HCP := hide (HC2.out _ _ _ HM1d.out HRM.out HM1x.out)
        go_upto_region 5 with fail
        go_cut [] from 25 to 33 (fun wx => Hid (Mf w wx O (fun j => False ∨ j = bx) s gv gl gd ⟨bV, updR b.L xk (b.L xk ++ xl), b.D⟩ (M + 1 + 1) ∧ wx.heap[bx]? = some (.cells #[.int .i64 xk.g, .int .i64 xk.n, .int .i64 xk.i, .bool xh, .int .i64 xn, .slice lx ln cx, .slice dx dn fx] 73 (0, 0))))
        case first =>
          go_region_held3 (fun w' => w'.cell? ⟨s, 0, none⟩ = some (.pointer (some ⟨gv, 0, none⟩)) ∧ w'.cell? ⟨s, 1, none⟩ = some (.pointer (some ⟨gl, 0, none⟩)) ∧ w'.cell? ⟨s, 2, none⟩ = some (.pointer (some ⟨gd, 0, none⟩)) ∧ w'.cell? ⟨bx, 0, none⟩ = some (.int .i64 xk.g) ∧ w'.cell? ⟨bx, 1, none⟩ = some (.int .i64 xk.n) ∧ w'.cell? ⟨bx, 2, none⟩ = some (.int .i64 xk.i) ∧ w'.cell? ⟨bx, 3, none⟩ = some (.bool xh) ∧ w'.cell? ⟨bx, 4, none⟩ = some (.int .i64 xn) ∧ w'.cell? ⟨bx, 5, none⟩ = some (.slice lx ln cx) ∧ w'.cell? ⟨bx, 6, none⟩ = some (.slice dx dn fx)) (first | with_reducible exact s1d | with_reducible exact s2) ((go_at_call 23; with_reducible refine HCP.out.mono ?_; rintro e W2 ⟨rfl, HM2, s2⟩))
          all_goals
            go_wp2
            go_meet
            case rel => exact HM2
        case rest =>
          have HM2 := hcut
          clear hcut HC2 HCP s1d HM1 HM1d HM1x
          have HMM : Hid (Mf w wc O (fun j => False ∨ j = bx) s gv gl gd ⟨bV, updR b.L xk (b.L xk ++ xl), putD b.D xk (xd.take 0)⟩ (M + 1 + 1) ∧ wc.heap[bx]? = some (.cells #[.int .i64 xk.g, .int .i64 xk.n, .int .i64 xk.i, .bool xh, .int .i64 xn, .slice lx ln cx, .slice dx dn fx] 73 (0, 0))) := HM2.out
          clear HM2
          obtain ⟨t0, t1, t2, t3, t4, t5, t6⟩ := cells_seven HMM.out.2
          go_wp2
          clear t0 t1 t2 t3 t4 t5 t6
          go_loopg [37] dn (fun gm i wr => ∃ m M2 : Nat, gm = dn - m ∧ m ≤ dn ∧ i = .int .i64 m ∧ Hid (Mf w wr O (fun j => False ∨ j = bx) s gv gl gd ⟨bV, updR b.L xk (b.L xk ++ xl), putD b.D xk (xd.take m)⟩ M2 ∧ wr.heap[bx]? = some (.cells #[.int .i64 xk.g, .int .i64 xk.n, .int .i64 xk.i, .bool xh, .int .i64 xn, .slice lx ln cx, .slice dx dn fx] 73 (0, 0))))
          case atStart => exact ⟨0, _, rfl, by omega, rfl, HMM⟩
          case round =>
            clear HMM
            obtain ⟨m, M2, rfl, hm, rfl, HI⟩ := hrel
            by_cases hlt2 : m < dn
            · obtain ⟨⟨ff, fn⟩, hp⟩ : ∃ p, xd[m]? = some p := ⟨_, List.getElem?_eq_getElem (by rw [HDN.out]; exact hlt2)⟩
              have rd := (HRW.out _ HI.out.1.tch).2
              obtain ⟨bd, od, rfl, hc⟩ := rd.addr (by omega)
              obtain ⟨z0, z1⟩ := hc m _ hp
              have hfx := rd.le
              have HB2 := hide (HI.out.1.box (fdO (ff, fn)))
              have hbf := heap_alloc_new wr (fdO (ff, fn))
              have hbx2 : (wr.alloc (fdO (ff, fn))).heap[bx]? = some (.cells #[.int .i64 xk.g, .int .i64 xk.n, .int .i64 xk.i, .bool xh, .int .i64 xn, .slice lx ln cx, .slice (some ⟨bd, od, none⟩) dn fx] 73 (0, 0)) := boxed_old HI.out.2 (below_alloc wr _ _ (Nat.le_refl _))
              have s3 := mid_cells2 (StaS.obj HB2.out.st) hbx2 hbf
              have HC3 : Hid (Calls Tryz.prog 10 #[.pointer (some ⟨gd, 0, none⟩), .agg #[.int .i64 xk.g, .int .i64 xk.n, .int .i64 xk.i], .int .i64 ff, .int .i64 fn] (wr.alloc (fdO (ff, fn))).drew fun e w' => e = .returned (.int .i64 0) ∧ Hid (Mf w w' O (fun j => False ∨ j = bx) s gv gl gd ⟨bV, updR b.L xk (b.L xk ++ xl), putD b.D xk (xd.take (m + 1))⟩ (M2 + 1) ∧ w'.heap[bx]? = some (.cells #[.int .i64 xk.g, .int .i64 xk.n, .int .i64 xk.i, .bool xh, .int .i64 xn, .slice lx ln cx, .slice (some ⟨bd, od, none⟩) dn fx] 73 (0, 0))) ∧ (w'.cell? ⟨s, 0, none⟩ = some (.pointer (some ⟨gv, 0, none⟩)) ∧ w'.cell? ⟨s, 1, none⟩ = some (.pointer (some ⟨gl, 0, none⟩)) ∧ w'.cell? ⟨s, 2, none⟩ = some (.pointer (some ⟨gd, 0, none⟩)) ∧ w'.cell? ⟨bx, 0, none⟩ = some (.int .i64 xk.g) ∧ w'.cell? ⟨bx, 1, none⟩ = some (.int .i64 xk.n) ∧ w'.cell? ⟨bx, 2, none⟩ = some (.int .i64 xk.i) ∧ w'.cell? ⟨bx, 3, none⟩ = some (.bool xh) ∧ w'.cell? ⟨bx, 4, none⟩ = some (.int .i64 xn) ∧ w'.cell? ⟨bx, 5, none⟩ = some (.slice lx ln cx) ∧ w'.cell? ⟨bx, 6, none⟩ = some (.slice (some ⟨bd, od, none⟩) dn fx) ∧ w'.cell? ⟨wr.heap.size, 0, none⟩ = some (.int .i64 ff) ∧ w'.cell? ⟨wr.heap.size, 1, none⟩ = some (.int .i64 fn))) := by
                rcases HDK.out with ⟨hri, hra⟩ | e0
                · have hmem := hra _ (List.mem_of_getElem? hp)
                  refine Calls.mono (stPut putOK _ s gv gl gd M2 _ xk ff fn _ HB2.out.drew.st (HB2.out.drew.out HO.out) (hri m).1 (hri m).2 hmem.1 hmem.2) ?_
                  rintro e w' ⟨r1, r2, r3⟩
                  have m' := HB2.out.drew.turn r2 r3
                  have hb' := r3.old (g := bx) hbx2 (fun e => e.2 (Or.inl (Or.inr rfl)))
                  have hf' := r3.old (g := wr.heap.size) hbf (fun e => e.2 (Or.inr rfl))
                  rw [putD_take b.D xk hp]
                  exact ⟨r1, ⟨m'.drop (fun j hj => Or.inl hj), hb'⟩, mid_cells2 (StaS.obj m'.st) hb' hf'⟩
                · rw [e0] at hp; simp at hp
              obtain ⟨t0, t1, t2, t3, t4, t5, t6⟩ := cells_seven HI.out.2
              have hmz : (m : Int) < (dn : Int) := by omega
              clear hc rd hp hbf hbx2 HB2 HI
              unfold fdO at HC3 s3
              obtain ⟨u0, u1, u2, u3, u4, u5, u6, u7, u8, u9, u10, u11⟩ := s3
              have s3 := And.intro u0 (And.intro u1 (And.intro u2 (And.intro u3 (And.intro u4 (And.intro u5 (And.intro u6 (And.intro u7 (And.intro u8 (And.intro u9 (And.intro u10 u11))))))))))
              clear u0 u1 u2 u3 u4 u5 u6 u7 u8 u9 u10 u11
              go_wp2_with fail
              go_region_held3 (fun w' => w'.cell? ⟨s, 0, none⟩ = some (.pointer (some ⟨gv, 0, none⟩)) ∧ w'.cell? ⟨s, 1, none⟩ = some (.pointer (some ⟨gl, 0, none⟩)) ∧ w'.cell? ⟨s, 2, none⟩ = some (.pointer (some ⟨gd, 0, none⟩)) ∧ w'.cell? ⟨bx, 0, none⟩ = some (.int .i64 xk.g) ∧ w'.cell? ⟨bx, 1, none⟩ = some (.int .i64 xk.n) ∧ w'.cell? ⟨bx, 2, none⟩ = some (.int .i64 xk.i) ∧ w'.cell? ⟨bx, 3, none⟩ = some (.bool xh) ∧ w'.cell? ⟨bx, 4, none⟩ = some (.int .i64 xn) ∧ w'.cell? ⟨bx, 5, none⟩ = some (.slice lx ln cx) ∧ w'.cell? ⟨bx, 6, none⟩ = some (.slice (some ⟨bd, od, none⟩) dn fx) ∧ w'.cell? ⟨wr.heap.size, 0, none⟩ = some (.int .i64 ff) ∧ w'.cell? ⟨wr.heap.size, 1, none⟩ = some (.int .i64 fn)) (first | exact s3 | exact s4 | go_keep) ((go_at_call 10; refine HC3.out.mono ?_; rintro e W3 ⟨rfl, HM3, s4⟩))
              all_goals
                go_wp2
                go_roundg (dn - (m + 1))
                case measure => omega
                case rel => exact ⟨m + 1, M2 + 1, rfl, by omega, by simp, HM3⟩
            · have hmz : ¬ (m : Int) < (dn : Int) := by omega
              have HM4 : Hid (Mf w wr O (fun _ => False) s gv gl gd (fillA a (cs.take (n + 1))) M2) := by
                have := HI.out.1.drop (E' := fun _ => False) (fun _ e => e.elim)
                rw [List.take_of_length_le (by rw [HDN.out]; omega)] at this
                show Mf _ _ _ _ _ _ _ _ _ _
                rw [HTK.out]
                exact this
              clear HI
              go_wp2
              go_roundg (N0 - (n + 1))
              case measure => omega
              case rel => exact ⟨n + 1, M2, rfl, by omega, by simp, HM4⟩
    · obtain rfl : n = N0 := by omega
      have H1 : Hid ((∃ M, AbS wr O s gv gl gd (fillA a cs) M) ∧ Tch O w wr) := by
        refine ⟨⟨M, ?_⟩, HM.out.tch⟩
        have := StaS.wide HM.out.st (O' := O) (fun j hj _ => hj.1)
        rw [List.take_of_length_le (by rw [HN.out]; exact Nat.le_refl _)] at this
        exact this
      clear HM
      go_wp2
      go_end0
      exact ⟨rfl, H1⟩
end Go.Proofs.YtiofkcmdgijjoaaGreat
