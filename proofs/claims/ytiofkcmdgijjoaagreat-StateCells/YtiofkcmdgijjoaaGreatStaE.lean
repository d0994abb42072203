/- A state emptied; cells laid into it. -/
import Derived.Test.YtiofkcmdgijjoaaGreatStaG
import Derived.Deep.RegionHeld3
import Derived.Deep.LoopGhost
import Derived.Deep.CutRange
namespace Go.Proofs.YtiofkcmdgijjoaaGreat
open Go.RowKit Go.MapKept Go.ChangeMaps

/-- A state without what lies at some keys. -/
def emA (a : Ab) (ks : List K3) : Ab := ⟨fun k => if k ∈ ks then Option.none else a.V k, fun k => if k ∈ ks then [] else a.L k, fun k => if k ∈ ks then [] else a.D k⟩
theorem emA_nil (a : Ab) : emA a [] = a := by
  unfold emA
  simp
theorem emA_all {a : Ab} {ks : List K3} (h : Kof a ks) : emA a ks = ab0 := by
  unfold emA ab0
  congr 1 <;> funext k <;> by_cases e : k ∈ ks
  all_goals first
    | (rw [if_pos e])
    | (rw [if_neg e]; first | exact (h.not e).1 | exact (h.not e).2.1 | exact (h.not e).2.2)
/-- In the midst of one key: its value and its list are gone, of its fields the first m. -/
def emM (a : Ab) (ks : List K3) (k : K3) (m : Nat) : Ab := ⟨updK (emA a ks).V k Option.none, updR (emA a ks).L k [], updR (emA a ks).D k ((a.D k).drop m)⟩
theorem emM_0 {a : Ab} {ks : List K3} {k : K3} (hk : k ∉ ks) : emM a ks k 0 = ⟨updK (emA a ks).V k Option.none, updR (emA a ks).L k [], (emA a ks).D⟩ := by
  unfold emM
  congr 1
  funext j
  unfold updR
  split
  · rename_i e
    subst e
    simp [emA, hk]
  · rfl
theorem emM_end {a : Ab} {ks : List K3} {n : Nat} {k : K3} (hn : ks[n]? = some k) {m : Nat} (hm : (a.D k).length ≤ m) : emM a (ks.take n) k m = emA a (ks.take (n + 1)) := by
  obtain ⟨hlt, rfl⟩ := List.getElem?_eq_some_iff.1 hn
  have hmem : ∀ j, j ∈ ks.take (n + 1) ↔ (j ∈ ks.take n ∨ j = ks[n]) := fun j => by
    rw [List.take_succ_eq_append_getElem hlt, List.mem_append, List.mem_singleton]
  unfold emM emA
  rw [List.drop_of_length_le hm]
  congr 1 <;> funext j
  all_goals
    by_cases e : j = ks[n]
    · simp only [updK, updR, if_pos e]
      rw [if_pos ((hmem j).2 (Or.inr e))]
    · simp only [updK, updR, if_neg e]
      by_cases e2 : j ∈ ks.take n
      · rw [if_pos e2, if_pos ((hmem j).2 (Or.inl e2))]
      · rw [if_neg e2, if_neg (fun h => ((hmem j).1 h).elim e2 e)]
theorem emM_cut {a : Ab} {ks : List K3} {k : K3} {m : Nat} {p : Int × Int} (hr : RiseF (a.D k)) (hp : (a.D k)[m]? = some p) : (⟨(emM a ks k m).V, (emM a ks k m).L, updR (emM a ks k m).D k (cutF ((emM a ks k m).D k) p.1)⟩ : Ab) = emM a ks k (m + 1) := by
  obtain ⟨hlt, rfl⟩ := List.getElem?_eq_some_iff.1 hp
  unfold emM
  congr 1
  funext j
  have e1 : (a.D k).drop m = (a.D k)[m] :: (a.D k).drop (m + 1) := (List.drop_eq_getElem_cons hlt)
  have e2 : cutF ((a.D k).drop m) (a.D k)[m].1 = (a.D k).drop (m + 1) := by
    rw [cutF_eq, e1]
    refine cut_eq ?_ rfl
    rw [← e1]
    exact hr.sublist (List.drop_sublist _ _)
  unfold updR
  by_cases e : j = k
  · subst e
    simp only [if_true]
    exact e2
  · simp only [if_neg e]
theorem emM_d {a : Ab} {ks : List K3} {k : K3} (m : Nat) : (emM a ks k m).D k = (a.D k).drop m := by
  unfold emM updR
  simp

set_option maxRecDepth 100000 in
set_option maxHeartbeats 8000000 in
/-- A state emptied. -/
theorem stateEmpty (O : Nat → Prop) (s gv gl gd : Nat) (a : Ab) (N : Nat) (w : World) (h : AbS w O s gv gl gd a N) (hO : ∀ k, w.heap.size ≤ k → O k) (hN : N ≤ 1000) (hl : ∀ k, (a.L k).length ≤ 100) (hd : ∀ k, (a.D k).length ≤ 100) (hr : ∀ k, RiseF (a.D k)) :
    Calls Tryz.prog 55 #[.pointer (some ⟨s, 0, none⟩)] w fun e w' => e = .returned (.tuple #[]) ∧ Hid ((∃ M, AbS w' O s gv gl gd ab0 M) ∧ Tch O w w') := by
  have HT := hide (stateCells O s gv gl gd N a w h hN hl hd)
  have HS := hide h
  have HO := hide hO
  have HR := hide (And.intro hr hd)
  clear h hO hl hd hr
  go_enter Tryz.func55, Tryz.ntmps55
  go_wp2_with fail
  refine HT.out.mono ?_
  rintro e w1 ⟨v, xs, ks, rfl, hk, hkl, hmap, hX, hb⟩
  clear HT
  obtain ⟨O1, hO1⟩ : ∃ O1 : Nat → Prop, O1 = (fun k => (O k ∧ k < w.heap.size) ∨ w1.heap.size ≤ k) := ⟨_, rfl⟩
  have HOUT : Hid (∀ k, w1.heap.size ≤ k → O1 k) := fun k hk => by rw [hO1]; exact Or.inr hk
  have HFIN : Hid (∀ w', (∃ M, AbS w' O1 s gv gl gd ab0 M) → Tch O1 w1 w' → (∃ M, AbS w' O s gv gl gd ab0 M) ∧ Tch O w w') := by
    intro w' ⟨M, hM⟩ ht
    have hz := hb.size
    have hsub : ∀ k, O1 k → O k := fun k hk => by
      rw [hO1] at hk
      rcases hk with hk | hk
      · exact hk.1
      · exact HO.out k (by omega)
    exact ⟨⟨M, StaS.wide hM (fun k hk _ => hsub k hk)⟩, (Below.tch hb).trans (ht.mono (fun k _ hk => hsub k hk))⟩
  have hap : ∀ k, w.heap.size ≤ k → k < w1.heap.size → ¬ O1 k := fun k h1 h2 => by
    rw [hO1]
    rintro (e | e) <;> omega
  have HAP : Hid (Apart w1 O1 v xs) := ⟨fun k hk => hap k (World.ownsRow.lt hX.row k hk).1 (World.ownsRow.lt hX.row k hk).2, fun x hx k hk => hap k (World.ownsRow.lt (hX.all x hx).la k hk).1 (World.ownsRow.lt (hX.all x hx).la k hk).2, fun x hx k hk => hap k (World.ownsRow.lt (hX.all x hx).da k hk).1 (World.ownsRow.lt (hX.all x hx).da k hk).2⟩
  have HM0 : Hid (Mid w1 w1 O1 (fun _ => False) s gv gl gd (emA a (ks.take 0)) N w.heap.size v xs) := by
    rw [List.take_zero, emA_nil]
    exact ⟨StaS.later (StaS.wide HS.out (O' := fun j => O1 j ∧ ¬ False) (fun j hj hl => ⟨by rw [hO1]; exact Or.inl ⟨hj, hl⟩, fun e => e⟩)) hb, fun _ e => e.elim, hX, Below.tch (Below.refl _ _)⟩
  have hxl : xs.length = ks.length := by have := congrArg List.length hmap; rwa [List.length_map, List.length_map] at this
  have HMAP : Hid (∀ (n : Nat) (x : Cr), xs[n]? = some x → ∃ k, ks[n]? = some k ∧ x.c = a.at k) := fun n x hx => by
    have h1 : (xs.map Cr.c)[n]? = some x.c := by rw [List.getElem?_map, hx]; rfl
    rw [hmap, List.getElem?_map] at h1
    obtain ⟨k, h2, h3⟩ := Option.map_eq_some_iff.1 h1
    exact ⟨k, h2, h3.symm⟩
  have HND := hide hk.1.nodup
  have HKA := hide (emA_all hk)
  obtain ⟨pa, cp, rfl⟩ : ∃ pa cp, v = .slice pa xs.length cp := by
    rcases hX.slice with ⟨rfl, rfl⟩ | ⟨g, cp, rfl, _⟩
    · exact ⟨_, _, rfl⟩
    · exact ⟨_, _, rfl⟩
  have hlen : xs.length ≤ 3000 := by omega
  have HXL := hide hxl
  clear hxl
  generalize w.heap.size = B at *
  clear hk hkl hmap hX hb hap hO1 HS HO
  go_wp2
  go_loopg [9] xs.length (fun gm i wr => ∃ n M : Nat, gm = xs.length - n ∧ n ≤ xs.length ∧ i = .int .i64 n ∧ Hid (Mid w1 wr O1 (fun _ => False) s gv gl gd (emA a (ks.take n)) M B (.slice pa xs.length cp) xs))
  case atStart => exact ⟨0, N, rfl, by omega, rfl, HM0⟩
  case round =>
    clear HM0
    obtain ⟨n, M, rfl, hn, rfl, HM⟩ := hrel
    by_cases hlt : n < xs.length
    · obtain ⟨x, hx⟩ : ∃ x, xs[n]? = some x := ⟨_, List.getElem?_eq_getElem hlt⟩
      obtain ⟨κ0, hkn, hxc⟩ := HMAP.out n x hx
      obtain ⟨g, rfl, hcp⟩ : ∃ g, pa = some ⟨g, 0, none⟩ ∧ xs.length ≤ cp := by
        rcases HM.out.row.slice with ⟨_, e⟩ | ⟨g, cp', e, h, _⟩
        · rw [e] at hlt; simp at hlt
        · simp at e; exact ⟨g, e.1, by omega⟩
      have HXM := hide (List.mem_of_getElem? hx)
      obtain ⟨⟨xk, xv, xl, xd⟩, xla, xda⟩ := x
      obtain ⟨rfl, hxd⟩ : xk = κ0 ∧ xd = a.D κ0 := by
        have h1 := congrArg Cl.k hxc
        have h2 := congrArg Cl.d hxc
        exact ⟨h1, h2⟩
      obtain ⟨lx, cx, ex, _⟩ := RowI.slice (HM.out.row.all _ HXM.out).la.row
      obtain ⟨dx, fx, gx, _⟩ := RowF.rd (HM.out.row.all _ HXM.out).da.row
      simp only at ex gx
      subst ex
      subst gx
      obtain ⟨p0, p1, p2, p3, p4, p5, p6⟩ := HM.out.row.at hx
      simp only at p0 p1 p2 p3 p4 p5 p6
      have hnotin : xk ∉ ks.take n := nodup_at HND.out hkn
      have HE0 := hide (emM_0 (a := a) hnotin)
      have HEN : Hid (emM a (ks.take n) xk xd.length = emA a (ks.take (n + 1))) := emM_end hkn (by rw [hxd]; exact Nat.le_refl _)
      have HEC : Hid (∀ m p, xd[m]? = some p → (⟨(emM a (ks.take n) xk m).V, (emM a (ks.take n) xk m).L, updR (emM a (ks.take n) xk m).D xk (cutF ((emM a (ks.take n) xk m).D xk) p.1)⟩ : Ab) = emM a (ks.take n) xk (m + 1)) := fun m p hp => emM_cut (HR.out.1 xk) (by rw [← hxd]; exact hp)
      have HED : Hid (∀ m, RiseF ((emM a (ks.take n) xk m).D xk) ∧ ((emM a (ks.take n) xk m).D xk).length ≤ 100) := fun m => by
        rw [emM_d]
        exact ⟨(HR.out.1 xk).sublist (List.drop_sublist _ _), by have := HR.out.2 xk; rw [List.length_drop]; omega⟩
      have hd100 : xd.length ≤ 100 := by rw [hxd]; exact HR.out.2 xk
      have HRD : Hid (∀ W b M, Mid w1 W O1 (fun j => False ∨ j = wr.heap.size) s gv gl gd b M B (.slice (some ⟨g, 0, none⟩) xs.length cp) xs → RdF W dx xd.length fx xd) := fun W b M hM => by
        obtain ⟨dx', fx', e', rd⟩ := RowF.rd (hM.row.all _ HXM.out).da.row
        obtain ⟨rfl, rfl⟩ : dx = dx' ∧ fx = fx' := by simpa using e'
        exact rd
      generalize emM a (ks.take n) xk = eM at *
      have HB0 := hide (HM.out.box (crO (⟨⟨xk, xv, xl, xd⟩, .slice lx xl.length cx, .slice dx xd.length fx⟩ : Cr)))
      have hbox := heap_alloc_new wr (crO (⟨⟨xk, xv, xl, xd⟩, .slice lx xl.length cx, .slice dx xd.length fx⟩ : Cr))
      unfold crO at HB0 hbox
      simp only at HB0 hbox p0 p1 p2 p3 p4 p5 p6
      generalize emA a (ks.take n) = b at *
      clear hx hkn hxc hxd hnotin HM HMAP HND HR
      generalize xv.isSome = xh at *
      generalize xv.getD 0 = xn at *
      obtain ⟨ln, hln⟩ : ∃ n, xl.length = n := ⟨_, rfl⟩
      obtain ⟨dn, hdn⟩ : ∃ n, xd.length = n := ⟨_, rfl⟩
      rw [hln] at p5 HB0 hbox
      rw [hdn] at p6 HB0 hbox HEN HRD hd100
      have HDN := hide hdn
      clear hln hdn
      unfold k3E at *
      obtain ⟨bx, hbx⟩ : ∃ bx, wr.heap.size = bx := ⟨_, rfl⟩
      rw [hbx] at HB0 hbox HRD
      have HC1 : Hid (∀ W M b, Mid w1 W O1 (fun j => False ∨ j = bx) s gv gl gd b M B (.slice (some ⟨g, 0, none⟩) xs.length cp) xs → W.heap[bx]? = some (.cells #[.int .i64 xk.g, .int .i64 xk.n, .int .i64 xk.i, .bool xh, .int .i64 xn, .slice lx ln cx, .slice dx dn fx] 73 (0, 0)) → Calls Tryz.prog 22 #[.pointer (some ⟨gv, 0, none⟩), .agg #[.int .i64 xk.g, .int .i64 xk.n, .int .i64 xk.i]] W fun e w' => (∃ z, e = .returned (.bool z)) ∧ Hid (Mid w1 w' O1 (fun j => False ∨ j = bx) s gv gl gd ⟨updK b.V xk Option.none, b.L, b.D⟩ (M + 1) B (.slice (some ⟨g, 0, none⟩) xs.length cp) xs ∧ w'.heap[bx]? = some (.cells #[.int .i64 xk.g, .int .i64 xk.n, .int .i64 xk.i, .bool xh, .int .i64 xn, .slice lx ln cx, .slice dx dn fx] 73 (0, 0))) ∧ (w'.cell? ⟨s, 0, none⟩ = some (.pointer (some ⟨gv, 0, none⟩)) ∧ w'.cell? ⟨s, 1, none⟩ = some (.pointer (some ⟨gl, 0, none⟩)) ∧ w'.cell? ⟨s, 2, none⟩ = some (.pointer (some ⟨gd, 0, none⟩)) ∧ w'.cell? ⟨bx, 0, none⟩ = some (.int .i64 xk.g) ∧ w'.cell? ⟨bx, 1, none⟩ = some (.int .i64 xk.n) ∧ w'.cell? ⟨bx, 2, none⟩ = some (.int .i64 xk.i) ∧ w'.cell? ⟨bx, 3, none⟩ = some (.bool xh) ∧ w'.cell? ⟨bx, 4, none⟩ = some (.int .i64 xn) ∧ w'.cell? ⟨bx, 5, none⟩ = some (.slice lx ln cx) ∧ w'.cell? ⟨bx, 6, none⟩ = some (.slice dx dn fx))) := fun W M b hM hbx => by
        refine Calls.mono (stUnset _ s gv gl gd M b xk W hM.st (hM.out HOUT.out)) ?_
        rintro e w' ⟨r1, r2, r3⟩
        have m' := hM.turn HAP.out r2 r3
        have hb' := r3.old hbx (fun e => e.2 (Or.inr rfl))
        exact ⟨⟨_, r1⟩, ⟨m', hb'⟩, mid_cells (StaS.obj m'.st) hb'⟩
      have HC2 : Hid (∀ W M b, Mid w1 W O1 (fun j => False ∨ j = bx) s gv gl gd b M B (.slice (some ⟨g, 0, none⟩) xs.length cp) xs → W.heap[bx]? = some (.cells #[.int .i64 xk.g, .int .i64 xk.n, .int .i64 xk.i, .bool xh, .int .i64 xn, .slice lx ln cx, .slice dx dn fx] 73 (0, 0)) → Calls Tryz.prog 24 #[.pointer (some ⟨gl, 0, none⟩), .agg #[.int .i64 xk.g, .int .i64 xk.n, .int .i64 xk.i]] W fun e w' => (∃ z, e = .returned (.int .i64 z)) ∧ Hid (Mid w1 w' O1 (fun j => False ∨ j = bx) s gv gl gd ⟨b.V, updR b.L xk [], b.D⟩ (M + 1) B (.slice (some ⟨g, 0, none⟩) xs.length cp) xs ∧ w'.heap[bx]? = some (.cells #[.int .i64 xk.g, .int .i64 xk.n, .int .i64 xk.i, .bool xh, .int .i64 xn, .slice lx ln cx, .slice dx dn fx] 73 (0, 0))) ∧ (w'.cell? ⟨s, 0, none⟩ = some (.pointer (some ⟨gv, 0, none⟩)) ∧ w'.cell? ⟨s, 1, none⟩ = some (.pointer (some ⟨gl, 0, none⟩)) ∧ w'.cell? ⟨s, 2, none⟩ = some (.pointer (some ⟨gd, 0, none⟩)) ∧ w'.cell? ⟨bx, 0, none⟩ = some (.int .i64 xk.g) ∧ w'.cell? ⟨bx, 1, none⟩ = some (.int .i64 xk.n) ∧ w'.cell? ⟨bx, 2, none⟩ = some (.int .i64 xk.i) ∧ w'.cell? ⟨bx, 3, none⟩ = some (.bool xh) ∧ w'.cell? ⟨bx, 4, none⟩ = some (.int .i64 xn) ∧ w'.cell? ⟨bx, 5, none⟩ = some (.slice lx ln cx) ∧ w'.cell? ⟨bx, 6, none⟩ = some (.slice dx dn fx))) := fun W M b hM hbx => by
        refine Calls.mono (stClear _ s gv gl gd M b xk W hM.st (hM.out HOUT.out)) ?_
        rintro e w' ⟨r1, r2, r3⟩
        have m' := hM.turn HAP.out r2 r3
        have hb' := r3.old hbx (fun e => e.2 (Or.inr rfl))
        exact ⟨⟨_, r1⟩, ⟨m', hb'⟩, mid_cells (StaS.obj m'.st) hb'⟩
      have s0 := mid_cells (StaS.obj HB0.out.st) hbox
      have HBX := hide hbox
      clear hbox
      have hnz : (n : Int) < (xs.length : Int) := by omega
      go_upto_region 3 with fail
      clear p0 p1 p2 p3 p4 p5 p6
      try rw [hbx]
      generalize wr.alloc (.cells #[.int .i64 xk.g, .int .i64 xk.n, .int .i64 xk.i, .bool xh, .int .i64 xn, .slice lx ln cx, .slice dx dn fx] 73) = WA at *
      clear hbx
      have s0d : WA.drew.cell? ⟨s, 0, none⟩ = some (.pointer (some ⟨gv, 0, none⟩)) ∧ WA.drew.cell? ⟨s, 1, none⟩ = some (.pointer (some ⟨gl, 0, none⟩)) ∧ WA.drew.cell? ⟨s, 2, none⟩ = some (.pointer (some ⟨gd, 0, none⟩)) ∧ WA.drew.cell? ⟨bx, 0, none⟩ = some (.int .i64 xk.g) ∧ WA.drew.cell? ⟨bx, 1, none⟩ = some (.int .i64 xk.n) ∧ WA.drew.cell? ⟨bx, 2, none⟩ = some (.int .i64 xk.i) ∧ WA.drew.cell? ⟨bx, 3, none⟩ = some (.bool xh) ∧ WA.drew.cell? ⟨bx, 4, none⟩ = some (.int .i64 xn) ∧ WA.drew.cell? ⟨bx, 5, none⟩ = some (.slice lx ln cx) ∧ WA.drew.cell? ⟨bx, 6, none⟩ = some (.slice dx dn fx) := s0
      have HB0d := hide HB0.out.drew
      have HBXd : Hid (WA.drew.heap[bx]? = some (.cells #[.int .i64 xk.g, .int .i64 xk.n, .int .i64 xk.i, .bool xh, .int .i64 xn, .slice lx ln cx, .slice dx dn fx] 73 (0, 0))) := HBX.out
      go_cut [] from 13 to 19 (fun wx => Hid (Mid w1 wx O1 (fun j => False ∨ j = bx) s gv gl gd ⟨updK b.V xk Option.none, b.L, b.D⟩ (M + 1) B (.slice (some ⟨g, 0, none⟩) xs.length cp) xs ∧ wx.heap[bx]? = some (.cells #[.int .i64 xk.g, .int .i64 xk.n, .int .i64 xk.i, .bool xh, .int .i64 xn, .slice lx ln cx, .slice dx dn fx] 73 (0, 0))))
      case first =>
        go_region_held3 (fun w' => w'.cell? ⟨s, 0, none⟩ = some (.pointer (some ⟨gv, 0, none⟩)) ∧ w'.cell? ⟨s, 1, none⟩ = some (.pointer (some ⟨gl, 0, none⟩)) ∧ w'.cell? ⟨s, 2, none⟩ = some (.pointer (some ⟨gd, 0, none⟩)) ∧ w'.cell? ⟨bx, 0, none⟩ = some (.int .i64 xk.g) ∧ w'.cell? ⟨bx, 1, none⟩ = some (.int .i64 xk.n) ∧ w'.cell? ⟨bx, 2, none⟩ = some (.int .i64 xk.i) ∧ w'.cell? ⟨bx, 3, none⟩ = some (.bool xh) ∧ w'.cell? ⟨bx, 4, none⟩ = some (.int .i64 xn) ∧ w'.cell? ⟨bx, 5, none⟩ = some (.slice lx ln cx) ∧ w'.cell? ⟨bx, 6, none⟩ = some (.slice dx dn fx)) (first | with_reducible exact s0d | with_reducible exact s1) ((go_at_call 22; with_reducible refine (HC1.out _ _ _ HB0d.out HBXd.out).mono ?_; rintro e W1 ⟨⟨z1, rfl⟩, HM1, s1⟩))
        all_goals
          go_wp2
          go_meet
          case rel => exact HM1
      case rest =>
        have HM1 := hcut
        clear hcut HC1 s0 s0d HB0 HBX HB0d HBXd
        have HM1d := hide HM1.out.1.drew
        have HM1x : Hid (wc.drew.heap[bx]? = some (.cells #[.int .i64 xk.g, .int .i64 xk.n, .int .i64 xk.i, .bool xh, .int .i64 xn, .slice lx ln cx, .slice dx dn fx] 73 (0, 0))) := HM1.out.2
        have s1d : wc.drew.cell? ⟨s, 0, none⟩ = some (.pointer (some ⟨gv, 0, none⟩)) ∧ wc.drew.cell? ⟨s, 1, none⟩ = some (.pointer (some ⟨gl, 0, none⟩)) ∧ wc.drew.cell? ⟨s, 2, none⟩ = some (.pointer (some ⟨gd, 0, none⟩)) ∧ wc.drew.cell? ⟨bx, 0, none⟩ = some (.int .i64 xk.g) ∧ wc.drew.cell? ⟨bx, 1, none⟩ = some (.int .i64 xk.n) ∧ wc.drew.cell? ⟨bx, 2, none⟩ = some (.int .i64 xk.i) ∧ wc.drew.cell? ⟨bx, 3, none⟩ = some (.bool xh) ∧ wc.drew.cell? ⟨bx, 4, none⟩ = some (.int .i64 xn) ∧ wc.drew.cell? ⟨bx, 5, none⟩ = some (.slice lx ln cx) ∧ wc.drew.cell? ⟨bx, 6, none⟩ = some (.slice dx dn fx) := mid_cells (StaS.obj HM1.out.1.drew.st) (show wc.drew.heap[bx]? = _ from HM1.out.2)
        go_upto_region 4 with fail
        go_cut [] from 20 to 26 (fun wx => Hid (Mid w1 wx O1 (fun j => False ∨ j = bx) s gv gl gd ⟨updK b.V xk Option.none, updR b.L xk [], b.D⟩ (M + 2) B (.slice (some ⟨g, 0, none⟩) xs.length cp) xs ∧ wx.heap[bx]? = some (.cells #[.int .i64 xk.g, .int .i64 xk.n, .int .i64 xk.i, .bool xh, .int .i64 xn, .slice lx ln cx, .slice dx dn fx] 73 (0, 0))))
        case first =>
          go_region_held3 (fun w' => w'.cell? ⟨s, 0, none⟩ = some (.pointer (some ⟨gv, 0, none⟩)) ∧ w'.cell? ⟨s, 1, none⟩ = some (.pointer (some ⟨gl, 0, none⟩)) ∧ w'.cell? ⟨s, 2, none⟩ = some (.pointer (some ⟨gd, 0, none⟩)) ∧ w'.cell? ⟨bx, 0, none⟩ = some (.int .i64 xk.g) ∧ w'.cell? ⟨bx, 1, none⟩ = some (.int .i64 xk.n) ∧ w'.cell? ⟨bx, 2, none⟩ = some (.int .i64 xk.i) ∧ w'.cell? ⟨bx, 3, none⟩ = some (.bool xh) ∧ w'.cell? ⟨bx, 4, none⟩ = some (.int .i64 xn) ∧ w'.cell? ⟨bx, 5, none⟩ = some (.slice lx ln cx) ∧ w'.cell? ⟨bx, 6, none⟩ = some (.slice dx dn fx)) (first | with_reducible exact s1d | with_reducible exact s2) ((go_at_call 24; with_reducible refine (HC2.out _ _ _ HM1d.out HM1x.out).mono ?_; rintro e W2 ⟨⟨z2, rfl⟩, HM2, s2⟩))
          all_goals
            go_wp2
            go_meet
            case rel => exact HM2
        case rest =>
          have HM2 := hcut
          clear hcut HC2 s1d HM1 HM1d HM1x
          have HMM : Hid (Mid w1 wc O1 (fun j => False ∨ j = bx) s gv gl gd (eM 0) (M + 2) B (.slice (some ⟨g, 0, none⟩) xs.length cp) xs ∧ wc.heap[bx]? = some (.cells #[.int .i64 xk.g, .int .i64 xk.n, .int .i64 xk.i, .bool xh, .int .i64 xn, .slice lx ln cx, .slice dx dn fx] 73 (0, 0))) := by
            rw [HE0.out]
            exact HM2.out
          clear HE0 HM2
          obtain ⟨t0, t1, t2, t3, t4, t5, t6⟩ := cells_seven HMM.out.2
          go_wp2
          clear t0 t1 t2 t3 t4 t5 t6
          go_loopg [30] dn (fun gm i wr => ∃ m M2 : Nat, gm = dn - m ∧ m ≤ dn ∧ i = .int .i64 m ∧ Hid (Mid w1 wr O1 (fun j => False ∨ j = bx) s gv gl gd (eM m) M2 B (.slice (some ⟨g, 0, none⟩) xs.length cp) xs ∧ wr.heap[bx]? = some (.cells #[.int .i64 xk.g, .int .i64 xk.n, .int .i64 xk.i, .bool xh, .int .i64 xn, .slice lx ln cx, .slice dx dn fx] 73 (0, 0))))
          case atStart => exact ⟨0, _, rfl, by omega, rfl, HMM⟩
          case round =>
            clear HMM
            obtain ⟨m, M2, rfl, hm, rfl, HI⟩ := hrel
            by_cases hlt2 : m < dn
            · obtain ⟨⟨ff, fn⟩, hp⟩ : ∃ p, xd[m]? = some p := ⟨_, List.getElem?_eq_getElem (by rw [HDN.out]; exact hlt2)⟩
              have rd := HRD.out _ _ _ HI.out.1
              obtain ⟨bd, od, rfl, hc⟩ := rd.addr (by omega)
              obtain ⟨z0, z1⟩ := hc m _ hp
              have hfx := rd.le
              have HB2 := hide (HI.out.1.box (fdO (ff, fn)))
              have hbf := heap_alloc_new wr (fdO (ff, fn))
              have hbx2 : (wr.alloc (fdO (ff, fn))).heap[bx]? = some (.cells #[.int .i64 xk.g, .int .i64 xk.n, .int .i64 xk.i, .bool xh, .int .i64 xn, .slice lx ln cx, .slice (some ⟨bd, od, none⟩) dn fx] 73 (0, 0)) := boxed_old HI.out.2 (below_alloc wr _ _ (Nat.le_refl _))
              have s3 := mid_cells2 (StaS.obj HB2.out.st) hbx2 hbf
              have HC3 : Hid (Calls Tryz.prog 11 #[.pointer (some ⟨gd, 0, none⟩), .agg #[.int .i64 xk.g, .int .i64 xk.n, .int .i64 xk.i], .int .i64 ff] (wr.alloc (fdO (ff, fn))).drew fun e w' => (∃ z, e = .returned (.bool z)) ∧ Hid (Mid w1 w' O1 (fun j => False ∨ j = bx) s gv gl gd (eM (m + 1)) (M2 + 1) B (.slice (some ⟨g, 0, none⟩) xs.length cp) xs ∧ w'.heap[bx]? = some (.cells #[.int .i64 xk.g, .int .i64 xk.n, .int .i64 xk.i, .bool xh, .int .i64 xn, .slice lx ln cx, .slice (some ⟨bd, od, none⟩) dn fx] 73 (0, 0))) ∧ (w'.cell? ⟨s, 0, none⟩ = some (.pointer (some ⟨gv, 0, none⟩)) ∧ w'.cell? ⟨s, 1, none⟩ = some (.pointer (some ⟨gl, 0, none⟩)) ∧ w'.cell? ⟨s, 2, none⟩ = some (.pointer (some ⟨gd, 0, none⟩)) ∧ w'.cell? ⟨bx, 0, none⟩ = some (.int .i64 xk.g) ∧ w'.cell? ⟨bx, 1, none⟩ = some (.int .i64 xk.n) ∧ w'.cell? ⟨bx, 2, none⟩ = some (.int .i64 xk.i) ∧ w'.cell? ⟨bx, 3, none⟩ = some (.bool xh) ∧ w'.cell? ⟨bx, 4, none⟩ = some (.int .i64 xn) ∧ w'.cell? ⟨bx, 5, none⟩ = some (.slice lx ln cx) ∧ w'.cell? ⟨bx, 6, none⟩ = some (.slice (some ⟨bd, od, none⟩) dn fx) ∧ w'.cell? ⟨wr.heap.size, 0, none⟩ = some (.int .i64 ff) ∧ w'.cell? ⟨wr.heap.size, 1, none⟩ = some (.int .i64 fn))) := by
                refine Calls.mono (stCut cutOK _ s gv gl gd M2 _ xk ff _ HB2.out.drew.st (HB2.out.drew.out HOUT.out) (HED.out m).1 (HED.out m).2) ?_
                rintro e w' ⟨r1, r2, r3⟩
                rw [HEC.out m _ hp] at r2
                have m' := HB2.out.drew.turn HAP.out r2 r3
                have hb' := r3.old (g := bx) hbx2 (fun e => e.2 (Or.inl (Or.inr rfl)))
                have hf' := r3.old (g := wr.heap.size) hbf (fun e => e.2 (Or.inr rfl))
                exact ⟨⟨_, r1⟩, ⟨m'.drop (fun j hj => Or.inl hj), hb'⟩, mid_cells2 (StaS.obj m'.st) hb' hf'⟩
              obtain ⟨t0, t1, t2, t3, t4, t5, t6⟩ := cells_seven HI.out.2
              have hmz : (m : Int) < (dn : Int) := by omega
              clear hc rd hp hbf hbx2 HB2 HI
              unfold fdO at HC3 s3
              obtain ⟨u0, u1, u2, u3, u4, u5, u6, u7, u8, u9, u10, u11⟩ := s3
              have s3 := And.intro u0 (And.intro u1 (And.intro u2 (And.intro u3 (And.intro u4 (And.intro u5 (And.intro u6 (And.intro u7 (And.intro u8 (And.intro u9 (And.intro u10 u11))))))))))
              clear u0 u1 u2 u3 u4 u5 u6 u7 u8 u9 u10 u11
              go_wp2_with fail
              go_region_held3 (fun w' => w'.cell? ⟨s, 0, none⟩ = some (.pointer (some ⟨gv, 0, none⟩)) ∧ w'.cell? ⟨s, 1, none⟩ = some (.pointer (some ⟨gl, 0, none⟩)) ∧ w'.cell? ⟨s, 2, none⟩ = some (.pointer (some ⟨gd, 0, none⟩)) ∧ w'.cell? ⟨bx, 0, none⟩ = some (.int .i64 xk.g) ∧ w'.cell? ⟨bx, 1, none⟩ = some (.int .i64 xk.n) ∧ w'.cell? ⟨bx, 2, none⟩ = some (.int .i64 xk.i) ∧ w'.cell? ⟨bx, 3, none⟩ = some (.bool xh) ∧ w'.cell? ⟨bx, 4, none⟩ = some (.int .i64 xn) ∧ w'.cell? ⟨bx, 5, none⟩ = some (.slice lx ln cx) ∧ w'.cell? ⟨bx, 6, none⟩ = some (.slice (some ⟨bd, od, none⟩) dn fx) ∧ w'.cell? ⟨wr.heap.size, 0, none⟩ = some (.int .i64 ff) ∧ w'.cell? ⟨wr.heap.size, 1, none⟩ = some (.int .i64 fn)) (first | exact s3 | exact s4 | go_keep) ((go_at_call 11; refine HC3.out.mono ?_; rintro e W3 ⟨⟨z3, rfl⟩, HM3, s4⟩))
              all_goals
                go_wp2
                go_roundg (dn - (m + 1))
                case measure => omega
                case rel => exact ⟨m + 1, M2 + 1, rfl, by omega, by simp, HM3⟩
            · have hmz : ¬ (m : Int) < (dn : Int) := by omega
              have HM4 : Hid (Mid w1 wr O1 (fun _ => False) s gv gl gd (emA a (ks.take (n + 1))) M2 B (.slice (some ⟨g, 0, none⟩) xs.length cp) xs) := by
                have := HI.out.1.drop (E' := fun _ => False) (fun _ e => e.elim)
                obtain rfl : m = dn := by omega
                rw [HEN.out] at this
                exact this
              clear HI
              go_wp2
              go_roundg (xs.length - (n + 1))
              case measure => omega
              case rel => exact ⟨n + 1, M2, rfl, by omega, by simp, HM4⟩
    · obtain rfl : n = xs.length := by omega
      have H1 : Hid ((∃ M, AbS wr O s gv gl gd ab0 M) ∧ Tch O w wr) := by
        refine HFIN.out wr ⟨M, ?_⟩ HM.out.tch
        have := StaS.wide HM.out.st (O' := O1) (fun j hj _ => hj.1)
        rw [List.take_of_length_le (by have := HXL.out; omega), HKA.out] at this
        exact this
      clear HM
      go_wp2
      go_end0
      exact ⟨rfl, H1⟩
end Go.Proofs.YtiofkcmdgijjoaaGreat
