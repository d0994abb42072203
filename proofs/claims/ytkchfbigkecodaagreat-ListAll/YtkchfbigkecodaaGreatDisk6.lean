/- Crash and Read, as begun uses them. -/
import Derived.Test.YtkchfbigkecodaaGreatDisk5
import Derived.Deep.RegionHeld3
namespace Go.Proofs.YtkchfbigkecodaaGreat
open Go.RowKit

set_option maxRecDepth 100000 in
theorem turn_neg (mb : Nat) (w : World) : Calls Tryz.prog 130 #[.map (some mb), .int .i64 (-1)] w fun e w' => e = .returned (.tuple #[]) ∧ w' = w := by
  go_enter Tryz.func130, Tryz.ntmps130
  go_wp2
  exact bodyPost_ret (v := .tuple #[]) (by simp [results, Tryz.results130, go_sem]) rfl ⟨rfl, rfl⟩

set_option maxRecDepth 100000 in
set_option maxHeartbeats 400000 in
theorem crash_any (B g : Nat) (s : ByteArray) (l l2 : List Int) (w : World) (hS : S3 B g s l l2 w) (hl0 : 0 < l.length) (hl : l.length ≤ 900) (hl2 : l2.length = 2) :
    Calls Tryz.prog 89 #[.pointer (some ⟨g, 0, none⟩), .int .i64 1, .int .i64 (-1)] w fun e w' => ∃ gc m v x, e = .returned (.pointer (some ⟨gc, 0, none⟩)) ∧ w'.heap[gc]? = some (dObj (some m) x (.slice none 0 0) (.slice none 0 0)) ∧ w'.heap[m]? = some (fmap s v) ∧ w'.ownsInts w.heap.size 5 .u8 v (l ++ l2.take 1) ∧ Below w.heap.size w w' := by
  obtain ⟨m1, m2, v2, gs, cs, lv, hg, hm2, ho2, hlv, hN⟩ := hS
  obtain ⟨g2, vc, rfl, _, hb2⟩ := owns_shape ho2 hl0
  obtain ⟨gl, lc, rfl, _, hbl⟩ := owns_shape hlv (by omega)
  obtain ⟨c0, c1, c2, c3⟩ := d_cells hg
  have HC := hide (filesCopy_one m2 s _ _ vc l w hm2 hb2 (by omega))
  have hcut : Bs w (some ⟨gl, 0, none⟩) 1 lc (l2.take 1) := by
    have := hbl.cut (i := 0) (j := 1) (by omega) (by omega)
    simpa using this
  have hlc := hbl.2.1
  have HCut := hide hcut
  have HG := hide hg
  have HN := hide hN
  have HN2 := hide hl2
  rw [hl2] at c3 hlc
  have su := fun W => run_upto gl 0 2 lc 1 (1 : Int) rfl (by omega) W
  clear hl2
  clear hg hm2 ho2 hlv hN hb2 hbl hcut
  go_enter Tryz.func89, Tryz.ntmps89
  go_wp2_with fail
  refine HC.out.mono ?_
  rintro e w1 ⟨m', v', rfl, km, k1, k2, hb1⟩
  have hg1 := (hb1.block g (lt_of_heap HG.out)).trans HG.out
  rw [HN2.out] at hg1
  clear c0 c1 c2 c3
  obtain ⟨c0, c1, c2, c3⟩ := d_cells hg1
  have hD : Below w1.heap.size w1 w1.drew := (Below.refl _ _).drew
  have hN1 : Noted w1.drew gs s 2 := by
    have e := HN.out
    rw [HN2.out] at e
    exact ⟨(hb1.cell (p := ⟨gs, 0, none⟩) (lt_of_cell e.1)).trans e.1, (hb1.cell (p := ⟨gs, 1, none⟩) (lt_of_cell e.2.1)).trans e.2.1, (hb1.cell (p := ⟨gs, 2, none⟩) (lt_of_cell e.2.2)).trans e.2.2⟩
  have d2 : w1.drew.cell? ⟨g, 2, none⟩ = some (.slice (some ⟨gs, 0, none⟩) 1 cs) := c2
  have d3 : w1.drew.cell? ⟨g, 3, none⟩ = some (.slice (some ⟨gl, 0, none⟩) 2 lc) := c3
  have HR0 := (redo_tear w.heap.size m' gs cs gl 0 2 1 lc s v' l (l2.take 1) w1.drew ((Go.Proofs.YtkchfbigkecodaaGreat.heap_drew _ _).trans k1) (owns_later k2 hD) hb1.size hN1 ((HCut.out.later hb1 (Nat.le_refl _)).later hD (Nat.le_refl _)) (by omega) (by omega) (by omega) (by omega))
  have hgnm : ∀ k, k = m' ∨ some k = v'.ownBlock → k ≠ g := by
    rintro k (e | e) e'
    · have := lt_of_heap HG.out; omega
    · have h1 := (k2.1.lt k e.symm).1; have := lt_of_heap HG.out; omega
  have HR : Hid (Calls Tryz.prog 128 #[.map (some m'), .slice (some ⟨gs, 0, none⟩) 1 cs, .slice (some ⟨gl, 0, none⟩) 1 lc] w1.drew fun e W1 => ∃ v3, e = .returned (.tuple #[]) ∧ W1.cell? ⟨g, 2, none⟩ = some (.slice (some ⟨gs, 0, none⟩) 1 cs) ∧ W1.cell? ⟨g, 3, none⟩ = some (.slice (some ⟨gl, 0, none⟩) 2 lc) ∧ Hid (W1.heap[m']? = some (fmap s v3)) ∧ Hid (W1.ownsInts w.heap.size 5 .u8 v3 (l ++ l2.take 1)) ∧ Hid (Tch (fun k => k = m' ∨ some k = v'.ownBlock) w1 W1)) := by
    refine HR0.mono ?_
    rintro e W1 ⟨v3, rfl, j1, j2, j3⟩
    have hgb := j3.block g (lt_of_heap hg1) (fun e => hgnm g e rfl)
    exact ⟨v3, rfl, (World.cell?_of_block (a := ⟨g, 2, none⟩) hgb).trans d2, (World.cell?_of_block (a := ⟨g, 3, none⟩) hgb).trans d3, j1, j2, ⟨j3.os, j3.tape, j3.output, j3.size, j3.block⟩⟩
  have HK : Hid (∀ k, v'.ownBlock = some k → w.heap.size ≤ k) := fun k hk => (k2.1.lt k hk).1
  clear hD hN1 k1 k2 HC hg1 HR0 hgnm
  go_wp2
  go_region_held3 (fun w' => w'.cell? ⟨g, 2, none⟩ = some (.slice (some ⟨gs, 0, none⟩) 1 cs) ∧ w'.cell? ⟨g, 3, none⟩ = some (.slice (some ⟨gl, 0, none⟩) 2 lc)) (first | exact ⟨d2, d3⟩ | exact ⟨e2, e3⟩) ((go_at_call 128; refine HR.out.mono ?_; rintro e W1 ⟨v3, rfl, e2, e3, HJ1, HJ2, HJ3⟩))
  obtain ⟨g3, c3', rfl, _, hb3⟩ := owns_shape HJ2.out (by simp; omega)
  have HC2 := hide (filesCopy_one m' s _ _ c3' _ W1 HJ1.out hb3 (by simp; omega))
  have hbw : Below w.heap.size w W1 := hb1.trans (HJ3.out.below (fun k hk e => by rcases e with e | e; omega; have := HK.out k e.symm; omega) hb1.size)
  have HBW := hide hbw
  clear hbw hb3 e2 e3 d2 d3 c0 c1 c2 c3 su HR HJ3 HK
  go_wp2_with fail
  refine (turn_neg m' W1).mono ?_
  rintro e w2 ⟨rfl, rfl⟩
  go_wp2_with fail
  refine HC2.out.mono ?_
  rintro e w3 ⟨m'', v'', rfl, _, _, _, hb4⟩
  have hm4 := (hb4.block m' (lt_of_heap HJ1.out)).trans HJ1.out
  have ho4 := owns_later HJ2.out hb4
  have hb5 : Below w.heap.size w w3 := HBW.out.trans (hb4.mono HBW.out.size)
  have HM4 := hide hm4
  have HO4 := hide ho4
  have HB5 := hide hb5
  clear hm4 ho4 hb5 hb4 HC2 HJ1 HJ2
  go_wp2
  go_ret
  refine ⟨w3.heap.size, m', _, some m'', rfl, heap_alloc_new w3 _, ?_, owns_alloc HO4.out _, HB5.out.alloc HB5.out.size _⟩
  rw [Below.heap_alloc _ _ _ (lt_of_heap HM4.out)]
  exact HM4.out

set_option maxRecDepth 100000 in
set_option maxHeartbeats 400000 in
theorem read_any (B gc m : Nat) (x : Option Nat) (s : ByteArray) (v : Value) (l : List Int) (w : World) (hg : w.heap[gc]? = some (dObj (some m) x (.slice none 0 0) (.slice none 0 0))) (hm : w.heap[m]? = some (fmap s v)) (ho : w.ownsInts B 5 .u8 v l) (hl0 : 0 < l.length) (hl : l.length ≤ 1000) :
    Calls Tryz.prog 90 #[.pointer (some ⟨gc, 0, none⟩), .string s] w fun e w' => ∃ gr, e = .returned (.tuple #[.slice (some ⟨gr, 0, none⟩) l.length l.length, .int .i64 0]) ∧ w'.ownsInts w.heap.size 5 .u8 (.slice (some ⟨gr, 0, none⟩) l.length l.length) l ∧ Below w.heap.size w w' := by
  obtain ⟨c0, c1, c2, c3⟩ := d_cells hg
  have lk := look_one und101 s true w hm
  simp only [if_true] at lk
  obtain ⟨gv, vc, rfl, _, hb⟩ := owns_shape ho hl0
  have HC := hide (copyOfD _ _ vc l w hb (by omega))
  generalize l.length = n at *
  clear hg hm ho hb
  go_enter Tryz.func90, Tryz.ntmps90
  go_wp2_with fail
  refine HC.out.mono ?_
  rintro e w1 ⟨rfl, k1, k2⟩
  have H1 := hide k1
  have H2 := hide k2
  clear k1 k2 HC
  go_wp2
  go_ret2
  exact ⟨_, rfl, H1.out, H2.out⟩
end Go.Proofs.YtkchfbigkecodaaGreat
