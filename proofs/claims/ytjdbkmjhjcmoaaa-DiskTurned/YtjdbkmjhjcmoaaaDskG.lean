/- Sync, Read, List and Loose of a disk of whatever many files. -/
import Derived.Test.YtjdbkmjhjcmoaaaDskE
namespace Go.Proofs.Ytjdbkmjhjcmoaaa
open Go.RowKit Go.MapKept Go.ChangeMaps

/-- Where a row of bytes lies, if it lies somewhere. -/
theorem loose_block {w : World} {lv : Value} {lo : List Int} {l : List (Ent ByteArray)} {r : Nat} (h : w.ownsInts 0 5 .u8 lv lo) (hl : ∀ k, lv.ownBlock = some k → ¬ rowsOf l k) (hr : ¬ rowsOf l r) (hw : r < w.heap.size) :
    ∃ a cap lb, lv = .slice a lo.length cap ∧ Bs w a lo.length cap lo ∧ (∀ ad, a = some ad → ad.block = lb) ∧ ¬ rowsOf l lb ∧ lb < w.heap.size := by
  obtain ⟨a, cap, hv, hb⟩ := Bs.of_owns h
  rcases h.1.2 with ⟨e, h0⟩ | ⟨g, cap', cur, e, _, hh, _⟩
  · refine ⟨a, cap, r, hv, hb, fun ad ha => ?_, hr, hw⟩
    rw [hv] at e
    simp at e
    rw [e.1] at ha; cases ha
  · refine ⟨a, cap, g, hv, hb, fun ad ha => ?_, hl g (by rw [e]; rfl), lt_of_heap hh⟩
    rw [hv] at e
    simp at e
    rw [e.1] at ha; cases ha; rfl

/-- Nothing is noted any more. -/
theorem DskM.clear {w : World} {O : Nat → Prop} {g r1 r2 : Nat} {F G : Files} {cs : List (ByteArray × Nat)} {lo : List Int} (h : DskM w O g r1 r2 F G cs lo) :
    (∃ sv lv, w.heap[g]? = some (dObj (some r1) (some r2) sv lv)) ∧ Dsk ((w.setCell ⟨g, 2, none⟩ (.slice none 0 0)).setCell ⟨g, 3, none⟩ (.slice none 0 0)) O g F G [] [] ∧ Tch O w ((w.setCell ⟨g, 2, none⟩ (.slice none 0 0)).setCell ⟨g, 3, none⟩ (.slice none 0 0)) := by
  obtain ⟨l1, c1, l2, c2, sv, lv, h⟩ := h
  obtain ⟨a1, a2, a3, a4, a5, a6, a7, a8, a9, a10, a11, a12, a13⟩ := h.apart
  obtain ⟨o1, o2, o3, o4, o5, o6, o7⟩ := h.own
  have hgr := grown_trans (grown_setCell w g 2 (.slice none 0 0)) (grown_setCell _ g 3 (.slice none 0 0))
  have k1 := (d_set h.obj none (.slice none 0 0)).2.2.1
  have k2 := (d_set k1 none (.slice none 0 0)).2.2.2
  have hT := Tch.of hgr
  refine ⟨⟨sv, lv, h.obj⟩, ⟨r1, r2, l1, c1, l2, c2, _, _, ⟨k2, h.now.tch hT (fun e => a1 (Option.some.inj e).symm) (fun k hk e => a3 (Option.some.inj e ▸ hk)), h.syn.tch hT (fun e => a2 (Option.some.inj e).symm) (fun k hk e => a4 (Option.some.inj e ▸ hk)), OwnC.nil _, World.ownsInts_nil _ _ _ _, h.r12, h.rows, fun k hk => (by cases hk), o1, o2, o3, o4, o5, fun k hk => (by cases hk), fun k hk => (by cases hk)⟩⟩, hT.mono (fun k _ e => (Option.some.inj e).symm ▸ o1)⟩

set_option maxRecDepth 100000 in
set_option maxHeartbeats 1600000 in
/-- Sync. -/
theorem sync_m (O : Nat → Prop) (g : Nat) (F G : Files) (cs : List (ByteArray × Nat)) (lo : List Int) (w : World) (h : Dsk w O g F G cs lo) (hO : ∀ k, w.heap.size ≤ k → O k) (hc : capF G 1000) (hlo : lo.length ≤ 2000) (hcs : cs.length ≤ 1000) (hcn : ∀ p ∈ cs, p.2 ≤ 2000) :
    Calls Try.prog 20 #[.pointer (some ⟨g, 0, none⟩)] w fun e w' => e = .returned (.tuple #[]) ∧ Dsk w' O g F (redoF G cs lo) [] [] ∧ Tch O w w' := by
  obtain ⟨r1, r2, l1, c1, l2, c2, sv, lv, h⟩ := h
  obtain ⟨c0, c1', c2', c3⟩ := d_cells h.obj
  have hD : Below w.heap.size w w.drew := (Below.refl _ _).drew
  have hd := h.later hD
  obtain ⟨a, cap, lb, hlv, hbs, hlb, hlr, hlw⟩ := loose_block hd.loose (fun k hk => (hd.lrow k hk).2) hd.syn.ne hd.syn.mp.lt
  obtain ⟨xa, xn, xc, hsv⟩ := hd.since.shape
  have HR : Hid (Calls Try.prog 45 #[.map (some r2), sv, .slice a lo.length cap] w.drew fun e w' => e = .returned (.tuple #[]) ∧ Hid (DskM w' O g r1 r2 F (redoF G cs lo) cs lo) ∧ Hid (Tch O w w')) := by
    refine (redo_any r2 l2 c2 G cs sv a lo.length cap lo 1000 lb w.drew hd.syn hd.since hbs (fun ad ha _ => hlb ad ha) hlr hlw hc (by omega) hlo hcs hcn).mono ?_
    rintro e w' ⟨rfl, hg⟩
    have := hd.grewSyn (fun k hk => hO k hk) hg
    exact ⟨rfl, this.1, (Below.tch hD).trans this.2⟩
  subst hsv
  subst hlv
  generalize lo.length = n at *
  clear h hd hbs hlb hlr hlw hc hcn hO hD
  go_enter Try.func20, Try.ntmps20
  go_wp2
  go_region_with (go_at_call 45; (refine HR.out.mono ?_; rintro e W1 ⟨rfl, HX, HB1⟩; obtain ⟨⟨sv', lv', j1⟩, j2, j3⟩ := HX.out.clear; have fr := d_free j1; obtain ⟨q0, q1, q2, q3⟩ := d_cells j1; have HJ := hide (And.intro j2 (HB1.out.trans j3)); clear j1 j2 j3 HX HB1))
  all_goals
    go_wp2
    go_end0
    exact ⟨rfl, HJ.out.1, HJ.out.2⟩

set_option maxRecDepth 100000 in
set_option maxHeartbeats 800000 in
theorem sync_0 (g : Nat) (w : World) (h : w.heap[g]? = some (dObj none none (.slice none 0 0) (.slice none 0 0))) :
    Calls Try.prog 20 #[.pointer (some ⟨g, 0, none⟩)] w fun e w' => e = .returned (.tuple #[]) ∧ w'.heap[g]? = some (dObj none none (.slice none 0 0) (.slice none 0 0)) ∧ w.grownBy w' (some g) := by
  obtain ⟨c0, c1', c2', c3⟩ := d_cells h
  have HS : Hid (((w.drew.setCell ⟨g, 2, none⟩ (.slice none 0 0)).setCell ⟨g, 3, none⟩ (.slice none 0 0)).heap[g]? = some (dObj none none (.slice none 0 0) (.slice none 0 0)) ∧ w.grownBy ((w.drew.setCell ⟨g, 2, none⟩ (.slice none 0 0)).setCell ⟨g, 3, none⟩ (.slice none 0 0)) (some g)) := by
    have h' : w.drew.heap[g]? = some (dObj none none (.slice none 0 0) (.slice none 0 0)) := h
    exact ⟨(d_set (d_set h' none (.slice none 0 0)).2.2.1 none (.slice none 0 0)).2.2.2, grown_trans (grown_drew (grown_refl w _)) (grown_trans (grown_setCell w.drew g 2 (.slice none 0 0)) (grown_setCell _ g 3 (.slice none 0 0)))⟩
  have fr := d_free h
  have HR := hide (redo_none none none 0 (.slice none 0 0) w.drew)
  clear h
  go_enter Try.func20, Try.ntmps20
  go_wp2
  go_region_with (go_at_call 45; (refine HR.out.mono ?_; rintro e W1 ⟨rfl, rfl⟩))
  all_goals
    go_wp2
    go_end0
    exact ⟨rfl, HS.out.1, HS.out.2⟩

set_option maxRecDepth 100000 in
/-- Read. -/
theorem read_m (O : Nat → Prop) (g : Nat) (F G : Files) (cs : List (ByteArray × Nat)) (lo : List Int) (s : ByteArray) (w : World) (h : Dsk w O g F G cs lo) (hc : capF F 60000) :
    Calls Try.prog 22 #[.pointer (some ⟨g, 0, none⟩), .string s] w fun e w' => Below w.heap.size w w' ∧ ((F s = none ∧ e = .returned (.tuple #[.slice none 0 0, .int .i64 3])) ∨ ∃ z a cap, F s = some z ∧ e = .returned (.tuple #[.slice a z.length cap, .int .i64 0]) ∧ w'.ownsInts w.heap.size 5 .u8 (.slice a z.length cap) z) := by
  obtain ⟨r1, r2, l1, c1, l2, c2, sv, lv, h⟩ := h
  obtain ⟨c0, c1', c2', c3⟩ := d_cells h.obj
  have lk : (Instr.lookup 80 (.map (some r1)) (.string s) true).run Try.prog w = .ok (.tuple #[(atE l1 s).getD (.slice none 0 0), .bool (atE l1 s).isSome]) w := h.now.mp.look strKeyd und101 (zeroBy w) s true
  rcases h.now.atS s with ⟨ha, hF, _⟩ | ⟨x, hx, hxs, ha, z, hF, ho⟩
  · rw [ha] at lk
    simp only [Option.getD_none, Option.isSome_none] at lk
    have HF := hide hF
    clear h ha hF
    go_enter Try.func22, Try.ntmps22
    go_wp2
    go_ret2
    exact ⟨Below.refl _ _, Or.inl ⟨HF.out, rfl⟩⟩
  · obtain ⟨a, cap, hv, hb⟩ := Bs.of_owns ho
    rw [ha, hv] at lk
    simp only [Option.getD_some, Option.isSome_some] at lk
    have HC := hide (copyOfD a z.length cap z w hb (by have := hc s z hF; omega))
    have HF := hide hF
    clear h ha hF hv hb ho hc
    go_enter Try.func22, Try.ntmps22
    go_wp2_with fail
    refine HC.out.mono ?_
    rintro e w1 ⟨rfl, ho, hb⟩
    have HO := hide ho
    have HB := hide hb
    clear ho hb HC
    go_wp2
    go_ret2
    exact ⟨HB.out, Or.inr ⟨z, _, _, HF.out, rfl, HO.out⟩⟩

set_option maxRecDepth 100000 in
theorem read_0 (g : Nat) (s : ByteArray) (w : World) (h : w.heap[g]? = some (dObj none none (.slice none 0 0) (.slice none 0 0))) :
    Calls Try.prog 22 #[.pointer (some ⟨g, 0, none⟩), .string s] w fun e w' => e = .returned (.tuple #[.slice none 0 0, .int .i64 3]) ∧ w' = w := by
  obtain ⟨c0, c1', c2', c3⟩ := d_cells h
  have lk := look_nothing und101 s true w
  simp only [if_true] at lk
  clear h
  go_enter Try.func22, Try.ntmps22
  go_wp2
  go_ret2
  exact ⟨rfl, rfl⟩

set_option maxRecDepth 100000 in
/-- List. -/
theorem list_m (O : Nat → Prop) (g N : Nat) (F G : Files) (cs : List (ByteArray × Nat)) (lo : List Int) (w : World) (h : Dsk w O g F G cs lo) (hN : namF F N) (hN1 : N ≤ 1000) :
    Calls Try.prog 21 #[.pointer (some ⟨g, 0, none⟩)] w fun e w' => ∃ v ns, e = .returned v ∧ NamesOf F ns ∧ OwnS w' w.heap.size v ns ∧ Below w.heap.size w w' := by
  obtain ⟨r1, r2, l1, c1, l2, c2, sv, lv, h⟩ := h
  obtain ⟨c0, c1', c2', c3⟩ := d_cells h.obj
  have HN := hide (names_some r1 l1 c1 N F w h.now hN hN1)
  clear h hN
  go_enter Try.func21, Try.ntmps21
  go_wp2_with fail
  refine HN.out.mono ?_
  rintro e w1 ⟨v, ns, rfl, k1, k2, k3⟩
  have H1 := hide k1
  have H2 := hide k2
  have H3 := hide k3
  clear k1 k2 k3 HN
  go_wp2
  go_ret
  exact ⟨v, ns, rfl, H1.out, H2.out, H3.out⟩

theorem NamesOf.none : NamesOf (fun _ => none) [] := ⟨by simp, by simp, by simp⟩

set_option maxRecDepth 100000 in
theorem list_0 (g : Nat) (w : World) (h : w.heap[g]? = some (dObj none none (.slice none 0 0) (.slice none 0 0))) :
    Calls Try.prog 21 #[.pointer (some ⟨g, 0, none⟩)] w fun e w' => ∃ v ns, e = .returned v ∧ NamesOf (fun _ => none) ns ∧ OwnS w' w.heap.size v ns ∧ Below w.heap.size w w' := by
  obtain ⟨c0, c1', c2', c3⟩ := d_cells h
  clear h
  go_enter Try.func21, Try.ntmps21
  go_wp2_with fail
  refine (names_nil w).mono ?_
  rintro e w1 ⟨rfl, hb⟩
  have HB := hide hb
  clear hb
  go_wp2
  go_ret
  exact ⟨_, [], rfl, NamesOf.none, OwnS.nil _ _, HB.out⟩

set_option maxRecDepth 100000 in
/-- Loose. -/
theorem loose_any (g n cap : Nat) (nm sm : Option Nat) (sv : Value) (a : Option Addr) (w : World) (h : w.heap[g]? = some (dObj nm sm sv (.slice a n cap))) :
    Calls Try.prog 24 #[.pointer (some ⟨g, 0, none⟩)] w fun e w' => e = .returned (.int .i64 n) ∧ w' = w := by
  obtain ⟨c0, c1', c2', c3⟩ := d_cells h
  clear h
  go_enter Try.func24, Try.ntmps24
  go_wp2
  go_ret
  exact ⟨rfl, rfl⟩
theorem loose_m (O : Nat → Prop) (g : Nat) (F G : Files) (cs : List (ByteArray × Nat)) (lo : List Int) (w : World) (h : Dsk w O g F G cs lo) :
    Calls Try.prog 24 #[.pointer (some ⟨g, 0, none⟩)] w fun e w' => e = .returned (.int .i64 lo.length) ∧ w' = w := by
  obtain ⟨r1, r2, l1, c1, l2, c2, sv, lv, h⟩ := h
  obtain ⟨a, cap, hv, _⟩ := Bs.of_owns h.loose
  subst hv
  exact loose_any g _ cap _ _ sv a w h.obj
end Go.Proofs.Ytjdbkmjhjcmoaaa
