/- begun answers true, in whatever world. -/
import Derived.Test.YtdogecaonlmalaaGreatBegunA
namespace Go.Proofs.YtdogecaonlmalaaGreat
open Go.RowKit

set_option maxRecDepth 100000 in
set_option maxHeartbeats 4000000 in
theorem begun_true (w : World) :
    Calls Tryz.prog 38 #[] w fun e w' => e = .returned (.bool true) ∧ Below w.heap.size w w' := by
  have kc := fun (w : World) (C : Array Value) (n c : Nat) => Lib.run_convert_bytes_const (P := Tryz.prog) w 112 5 C n c Tryz.underlying112 Tryz.underlying5
  go_enter Tryz.func38, Tryz.ntmps38
  go_wp2_with fail
  refine (put300 _).mono ?_
  rintro e w1 ⟨a1, c1, rfl, hb1, hw1⟩
  go_wp2_with fail
  refine (get300 _ _ _ hb1).mono ?_
  rintro e w1' ⟨rfl, rfl⟩
  clear hb1
  go_wp2_with fail
  have hAB : Bs ((w1'.alloc (.cells #[.int .u8 97, .int .u8 98] 5 (2, 3))).alloc (.cells #[.slice (some ⟨w1'.heap.size, 0, none⟩) 2 2] 112)) (some ⟨w1'.heap.size, 0, none⟩) 2 2 [97, 98] :=
    (Bs.lit w1' [97, 98] (2, 3) (by decide) (by decide)).later (below_alloc _ _ _ (Nat.le_refl _)) (Nat.le_refl _)
  have hC1 : ((w1'.alloc (.cells #[.int .u8 97, .int .u8 98] 5 (2, 3))).alloc (.cells #[.slice (some ⟨w1'.heap.size, 0, none⟩) 2 2] 112)).cell? ⟨w1'.heap.size + 1, 0, none⟩ = some (.slice (some ⟨w1'.heap.size, 0, none⟩) 2 2) := by
    simp
  refine (putAB _ _ _ hC1 hAB).mono ?_
  rintro e w2 ⟨g2, c2, rfl, hg2, hb2, hw2⟩
  have hw2' : Below w.heap.size w w2 := hw1.trans (((below_alloc w1' _ w.heap.size hw1.size).trans (below_alloc _ _ _ (by simp; have := hw1.size; omega))).trans (hw2.mono (by simp; have := hw1.size; omega)))
  clear hAB hC1 hw2 hw1
  go_wp2_with fail
  refine (getAB _ _ _ hb2).mono ?_
  rintro e w3 ⟨gt, ct, rfl, hbt, hw3⟩
  have HW3 := hide (hw2'.trans (hw3.mono hw2'.size))
  have HT := hide hbt
  clear hb2 hw2' hbt hw3
  go_wp2_with fail
  refine (storeNew_any _).mono ?_
  rintro e w4 ⟨rfl, rfl⟩
  go_wp2_with fail
  refine (diskNew_any _).mono ?_
  rintro e w4 ⟨rfl, rfl⟩
  go_wp2_with fail
  have h12 : Bs (((w3.alloc (stObj 0 0 none)).alloc (dObj none none (.slice none 0 0) (.slice none 0 0))).alloc (.cells #[.int .u8 1, .int .u8 2] 5)) (some ⟨w3.heap.size + 1 + 1, 0, none⟩) 2 2 [1, 2] := by
    have := Bs.lit ((w3.alloc (stObj 0 0 none)).alloc (dObj none none (.slice none 0 0) (.slice none 0 0))) [1, 2] (0, 0) (by decide) (by decide)
    simpa using this
  obtain ⟨hs0, hd0, hbW⟩ := begin3 w3 (stObj 0 0 none) (dObj none none (.slice none 0 0) (.slice none 0 0)) (.cells #[.int .u8 1, .int .u8 2] 5)
  have hWs : (((w3.alloc (stObj 0 0 none)).alloc (dObj none none (.slice none 0 0) (.slice none 0 0))).alloc (.cells #[.int .u8 1, .int .u8 2] 5)).heap.size = w3.heap.size + 3 := by simp
  generalize ((w3.alloc (stObj 0 0 none)).alloc (dObj none none (.slice none 0 0) (.slice none 0 0))).alloc (.cells #[.int .u8 1, .int .u8 2] 5) = WA at *
  refine (storePut_first w3.heap.size ⟨#[120]⟩ _ 2 2 [1, 2] WA hs0 (by decide) (by decide) h12 (by omega)).mono ?_
  rintro e w5 ⟨mb, v5, rfl, k1, k2, k3⟩
  have hSt : St w3.heap.size mb v5 w5 := ⟨k1, k2⟩
  have hd5 := (Tch.of k3).old hd0 (by simp)
  have hb5 : Below w3.heap.size w3 w5 := hbW.trans (grown_below k3 (Nat.le_refl _) hbW.size)
  have hmb : mb ≠ w3.heap.size + 1 := by intro e; rw [e, hd5] at k2; simp [dObj] at k2
  have hmbl := lt_of_heap k2
  have hs5 : w3.heap.size + 3 ≤ w5.heap.size := by have := k3.size; omega
  have HSt := hide hSt
  have HD5 := hide hd5
  have HB5 := hide hb5
  have HMB := hide hmb
  clear k1 k2 k3 hSt hd5 hb5 hmb h12 hs0 hd0 hbW hWs
  go_wp2_with fail
  have hH := Bs.lit w5 [104, 101, 108, 108, 111] (5, 6) (by decide) (by decide)
  have hD6 : (w5.alloc (.cells #[.int .u8 104, .int .u8 101, .int .u8 108, .int .u8 108, .int .u8 111] 5 (5, 6))).heap[w3.heap.size + 1]? = some (dObj none none (.slice none 0 0) (.slice none 0 0)) := by
    rw [Below.heap_alloc _ _ _ (lt_of_heap HD5.out)]; exact HD5.out
  refine (append_first (w5.heap.size + 1) (w3.heap.size + 1) ⟨#[102]⟩ _ 5 5 [104, 101, 108, 108, 111] _ hD6 (by simp) (by decide) (by decide) hH (by omega)).mono ?_
  rintro e w6 ⟨rfl, hS1, hg6⟩
  have hba := below_alloc w5 (.cells #[.int .u8 104, .int .u8 101, .int .u8 108, .int .u8 108, .int .u8 111] 5 (5, 6)) w5.heap.size (Nat.le_refl _)
  have hSt6 := (HSt.out.later hba).tch (Tch.of hg6) (by simp) (by simp; exact HMB.out)
  have hs6 : w5.heap.size + 1 ≤ w6.heap.size := by have := hg6.size; simpa using this
  have hb6 : Below w3.heap.size w3 w6 := (HB5.out.trans (hba.mono HB5.out.size)).trans (grown_below hg6 (by omega) (by simp; omega))
  have HSt6 := hide hSt6
  have HB6 := hide hb6
  have HS1 := hide hS1
  clear hSt6 hb6 hS1 hg6 hba hH hD6 HSt HB5 HD5
  go_wp2_with fail
  refine (sync_any (w5.heap.size + 1) (w3.heap.size + 1) ⟨#[102]⟩ [104, 101, 108, 108, 111] w6 HS1.out hs6 (by decide) (by decide)).mono ?_
  rintro e w7 ⟨rfl, hS2, ht7⟩
  have HSt7 := hide (HSt6.out.tch ht7 (by omega) (by have := HMB.out; omega))
  have HB7 := hide (HB6.out.trans (ht7.below (fun k hk e => by omega) HB6.out.size))
  have HS2 := hide hS2
  have hs7 := Nat.le_trans hs6 ht7.size
  clear ht7 hS2 HSt6 HB6 HS1
  go_wp2_with fail
  have hH := Bs.lit w7 [33, 33] (2, 3) (by decide) (by decide)
  have hba := below_alloc w7 (.cells #[.int .u8 33, .int .u8 33] 5 (2, 3)) w7.heap.size (Nat.le_refl _)
  refine (append_second (w5.heap.size + 1) (w3.heap.size + 1) ⟨#[102]⟩ _ 2 2 [104, 101, 108, 108, 111] [33, 33] _ (HS2.out.later hba) (by simp; omega) (by decide) (by decide) hH (by omega) (by decide) (by decide)).mono ?_
  rintro e w8 ⟨rfl, hS3, ht8⟩
  have HSt8 := hide ((HSt7.out.later hba).tch ht8 (by omega) (by have := HMB.out; omega))
  have HB8 := hide ((HB7.out.trans (hba.mono HB7.out.size)).trans (ht8.below (fun k hk e => by omega) (Nat.le_trans HB7.out.size hba.size)))
  have HS3 := hide hS3
  clear ht8 hS3 HSt7 HB7 HS2 hba hH
  go_wp2_with fail
  refine (crash_any (w5.heap.size + 1) (w3.heap.size + 1) ⟨#[102]⟩ [104, 101, 108, 108, 111] [33, 33] w8 HS3.out (by decide) (by decide) rfl).mono ?_
  rintro e w9 ⟨gc, m9, v9, x9, rfl, k1, k2, k3, hb9⟩
  have HSt9 := hide (HSt8.out.later hb9)
  have HB9 := hide (HB8.out.trans (hb9.mono HB8.out.size))
  have HR := hide (read_any _ gc m9 x9 ⟨#[102]⟩ v9 [104, 101, 108, 108, 111, 33] w9 k1 k2 k3 (by decide) (by decide))
  clear k1 k2 k3 hb9 HSt8 HB8 HS3
  go_wp2_with fail
  refine HR.out.mono ?_
  rintro e wA ⟨gr, rfl, kr, hbA⟩
  have HStA := hide (HSt9.out.later hbA)
  have HBA := hide (HB9.out.trans (hbA.mono HB9.out.size))
  obtain ⟨ar, cr, er, hbr⟩ := Bs.of_owns kr
  obtain ⟨rfl, _, rfl⟩ : ar = some ⟨gr, 0, none⟩ ∧ [104, 101, 108, 108, 111, 33].length = [104, 101, 108, 108, 111, 33].length ∧ cr = 6 := by simpa using er.symm
  have HBR := hide hbr
  clear kr hbA hbr er HR HSt9 HB9
  go_wp2_with fail
  have hx1 : ((wA.alloc xObj).alloc xObj).heap[wA.heap.size + 1]? = some xObj := by
    have := heap_alloc_new (wA.alloc xObj) xObj
    simpa using this
  have hx0 : ((wA.alloc xObj).alloc xObj).heap[wA.heap.size]? = some xObj := by
    rw [Below.heap_alloc _ _ _ (by simp)]; exact heap_alloc_new wA _
  have hbx : Below wA.heap.size wA ((wA.alloc xObj).alloc xObj) := (below_alloc wA _ _ (Nat.le_refl _)).trans (below_alloc _ _ _ (by simp))
  have HP := hide (mutPut_x (wA.heap.size + 1) _ hx1)
  refine HP.out.mono ?_
  rintro e wB ⟨vm, rfl, km, hbB⟩
  have hxB := (hbB.block _ (lt_of_heap hx0)).trans hx0
  obtain ⟨gm, cm, rfl, _, hbm⟩ := owns_shape km (by decide)
  have hgm : gm < wB.heap.size := (km.1.lt gm rfl).2
  have HG := hide (mutGet_x gm 0 cm wB hbm hgm)
  have hAB := hbx.trans (hbB.mono hbx.size)
  have HStB := hide (HStA.out.later hAB)
  have HBB := hide (HBA.out.trans (hAB.mono HBA.out.size))
  have HBRB := hide (HBR.out.later hAB (Nat.le_refl _))
  clear hx1 hx0 hbx HP km hbm hbB hAB HStA HBA HBR
  go_wp2_with fail
  refine HG.out.mono ?_
  unfold xMut
  rintro e wC ⟨rfl, hbC⟩
  have hxC := (hbC.block _ (lt_of_heap hxB)).trans hxB
  have HStC := hide (HStB.out.later hbC)
  have HBC := hide (HBB.out.trans (hbC.mono HBB.out.size))
  have HBRC := hide (HBRB.out.later hbC (Nat.le_refl _))
  have HXC := hide hxC
  clear hxB hxC hbC HG HStB HBB HBRB
  have hbD := below_alloc wC xObj wC.heap.size (Nat.le_refl _)
  have cv1 := conv_ab gt ct (wC.alloc xObj) ((HT.out.later HBC.out (Nat.le_refl _)).later hbD (Nat.le_refl _))
  have HAS := hide (has_x (wC.alloc xObj) w3.heap.size mb v5 (HStC.out.later hbD))
  have HXD := hide ((hbD.block _ (lt_of_heap HXC.out)).trans HXC.out)
  have HYD := hide (heap_alloc_new wC xObj)
  have HBRD := hide (HBRC.out.later hbD (Nat.le_refl _))
  have HBD := hide (HBC.out.trans (hbD.mono HBC.out.size))
  have HS : Hid ((wC.alloc xObj).heap.size = wC.heap.size + 1) := by show _ = _; simp
  rw [HS.out] at HAS
  have HL1 := hide (lt_of_heap HXC.out)
  clear hbD HStC HXC HBRC HBC
  unfold xObj at *
  go_wp2_with fail
  refine HAS.out.mono ?_
  rintro e wE ⟨rfl, hbE⟩
  have HBRE := HBRD.out.later hbE (Nat.le_of_eq HS.out)
  have cv2 := conv_hello gr wE HBRE
  have hxE := (hbE.block wA.heap.size (by have := HL1.out; omega)).trans HXD.out
  have hyE := (hbE.block wC.heap.size (by omega)).trans HYD.out
  obtain ⟨x0, x1, x2, x3, x4, x5⟩ := x_cells hxE
  obtain ⟨y0, y1, y2, y3, y4, y5⟩ := x_cells hyE
  have HXE := hide hxE
  have HBE := hide (HBD.out.trans (hbE.mono (by have := HBD.out.size; rw [HS.out] at this; exact this)))
  clear hxE hyE hbE HBRE HBRD HXD HYD HBD HAS cv1
  go_wp2_with fail
  refine (of_12 wE).mono ?_
  rintro e wF ⟨rfl, hbF⟩
  clear x0 x1 x2 x3 x4 x5 y0 y1 y2 y3 y4 y5 cv2
  go_wp2_with fail
  refine (of_2 wF).mono ?_
  rintro e wG ⟨rfl, hbG⟩
  go_wp2_with fail
  refine (of_0 wG).mono ?_
  rintro e wH ⟨rfl, hbH⟩
  have hFG := hbF.trans (hbG.mono hbF.size)
  have hFH := hFG.trans (hbH.mono hFG.size)
  have hxH := (hFH.block _ (lt_of_heap HXE.out)).trans HXE.out
  obtain ⟨x0, x1, x2, x3, x4, x5⟩ := x_cells hxH
  have HF := hide (HBE.out.trans (hFH.mono HBE.out.size))
  clear hbF hbG hbH hFG hFH hxH HXE HBE
  go_wp2_with fail
  refine (may_x wH).mono ?_
  rintro e wI ⟨rfl, hbI⟩
  have HI := hide (HW3.out.trans ((HF.out.mono HW3.out.size).trans (hbI.mono (Nat.le_trans HW3.out.size HF.out.size))))
  clear x0 x1 x2 x3 x4 x5 hbI HF
  go_wp2
  go_ret
  exact ⟨rfl, HI.out⟩
end Go.Proofs.YtdogecaonlmalaaGreat
