/- The statement FrameAll: texts are put in frames and read back as the document says, a byte turned, an end cut off, and whatever bytes are read as it says too, for all texts, numbers and bytes. -/
import Derived.Test.YtgpfpmocdmeldaaGreatFrameP
import Derived.Test.YtgpfpmocdmeldaaGreatBegun
import Derived.Deep.Matrix
import Derived.Deep.DeepCutAuto
import Derived.Deep.LoopGhost
namespace Go.Proofs.YtgpfpmocdmeldaaGreat.frameAll
open Go.ChangeShapes Go.WideShapes Go.ChangeAt Go.RowKit

/-- What stays readable. -/
theorem Ps.laterB {w w' : World} {B : Nat} {pa : Option Addr} {m : Nat} {ls : List (List Int)} (h : Ps w pa m ls) (hb : Below B w w') (hB : w.heap.size ≤ B) : Ps w' pa m ls := h.later (hb.mono hB)

set_option maxRecDepth 100000 in
set_option maxHeartbeats 4000000 in
theorem walk (pa : Option Addr) (m mc : Nat) (ls : List (List Int)) (at' x cut : Int) (a : Option Addr) (n c : Nat) (z : List Int) (w : World)
    (hP : Ps w pa m ls) (hmc : m ≤ mc) (hmc2 : mc ≤ 9223372036854775807) (wa : (Lit.int .i64 at').wf = true) (wx : (Lit.int .u8 x).wf = true) (wc : (Lit.int .i64 cut).wf = true) (h : Row .u8 w a n c z) :
    Calls Tryz.prog 3 #[.slice pa m mc, .int .i64 at', .int .u8 x, .int .i64 cut, .slice a n c] w fun e w' => e = .returned (.bool true) ∧ Below w.heap.size w w' := by
  have HB := hide h.bs
  have HP := hide hP
  have hat := wf_i64 wa
  have hct := wf_i64 wc
  have hx := of_wf_u8 wx
  have hnc := h.2.1
  have hc63 := h.2.2.1
  clear h hP wa wx wc
  go_enter Tryz.func3, Tryz.ntmps3
  go_wp2_with fail
  refine (begun_true _).mono ?_
  rintro e w1 ⟨rfl, hb1⟩
  have H1 := hide hb1
  have HB1 := hide (HB.out.later hb1 (Nat.le_refl _))
  have HP1 := hide (Ps.laterB HP.out hb1 (Nat.le_refl _))
  clear hb1 HB HP
  obtain ⟨j, hj⟩ : ∃ j, j = min m 6 := ⟨_, rfl⟩
  have m1 : (if (6 : Int) < (m : Int) then (6 : Int) else (m : Int)) = (j : Int) := by
    by_cases hh : 6 < m
    · rw [if_pos (by omega)]; omega
    · rw [if_neg (by omega)]; omega
  have hj6 : j ≤ 6 := by omega
  have hjm : j ≤ m := by omega
  have s1 := fun W => run_uptoP pa m mc j (j : Int) rfl (by omega) W
  have HPj := hide (HP1.out.take j hjm)
  have HSh := hide (fun nq => short_val a n c 60 60 z (w1.drewN nq) (HB1.out.later (below_drewN (Below.refl w1.heap.size w1) nq) (Nat.le_refl _)) (by omega) (by rfl))
  have HBr := hide (HB1.out.upto 60)
  have hrn : min n 60 ≤ 60 := Nat.min_le_right _ _
  have hrc : min n 60 ≤ c := by omega
  generalize ls.take j = T at *
  generalize z.take 60 = R at *
  generalize min n 60 = rn at *
  clear HB1 HP1 hj
  go_wp2
  go_quiet ((go_at_call 7; exact Calls.quiet_of_same (HSh.out _)))
  have hbq := below_drewN (Below.refl w1.heap.size w1) nq
  have H2 := hide (H1.out.trans (hbq.mono H1.out.size))
  have HPq := hide (Ps.laterB HPj.out hbq (Nat.le_refl _))
  have HBq := hide (HBr.out.later hbq (Nat.le_refl _))
  generalize w1.drewN nq = W1 at *
  have HTl := hide HPq.out.1
  clear hbq H1 HPj HBr HSh s1 m1
  go_wp2
  go_loopw [12, 45] (fun v i wr => ∃ k : Nat, k ≤ j ∧ i = .int .i64 k ∧ wr.ownsInts W1.heap.size 5 .u8 v (framesB (cut100 (T.take k))) ∧ Below W1.heap.size W1 wr) (fun _ i _ => j - (intOf i).toNat)
  case atStart => exact ⟨0, by omega, rfl, by simpa [framesB, cut100] using World.ownsInts_nil _ _ _ _, Below.refl _ _⟩
  case round =>
    obtain ⟨k, hk, rfl, hown, hbel⟩ := hrel
    by_cases hlt : k < j
    · obtain ⟨rb, ro, rfl, hcell⟩ := (Ps.laterB HPq.out hbel (Nat.le_refl _)).2 (by omega)
      obtain ⟨ta, tn, tc, hck, hbs⟩ := hcell k hlt
      have HSh := hide (short_val ta tn tc 100 100 _ wr hbs (by omega) (by rfl))
      have HF := hide (refFrame_any _ _ _ _ wr (hbs.upto 100) (by omega))
      have hlen := cut100_bytes (T.take k)
      have hlen2 : (T.take k).length ≤ k := by rw [List.length_take]; omega
      have HL : Hid ((framesB (cut100 (T.take k))).length ≤ 700) := by show _ ≤ _; omega
      have HE := hide (cut100_take T k (by rw [HTl.out]; exact hlt))
      have HO := hide hown
      have HBE := hide hbel
      have hX : ((T.getD k []).take 100).length ≤ 100 := by rw [List.length_take]; omega
      clear hcell hbs hlen hlen2 hown hbel
      generalize (T.getD k []).take 100 = X at *
      go_wp2_with fail
      refine HSh.out.mono ?_
      rintro e w2 ⟨rfl, rfl⟩
      go_wp2_with fail
      refine HF.out.mono ?_
      rintro e w3 ⟨v3, rfl, ho3, hb3⟩
      have hfl := frameB_len X
      obtain ⟨a3, c3, rfl, hbs3⟩ := Bs.of_owns ho3
      have HO3 := hide (owns_later HO.out hb3)
      have HBE3 := hide (HBE.out.trans (hb3.mono HBE.out.size))
      have hs3 := HBE3.out.size
      have HLL : Hid ((framesB (cut100 (T.take k))).length + (frameB X).length ≤ 70368744177664) := by show _ ≤ _; have := HL.out; omega
      have HBS3 := hide hbs3
      clear ho3 hb3 hfl hbs3 HF HSh HO
      go_wp2_with (at_builtin; refine wpList_app rfl (.tmp 48) (.tmp 54) rfl W1.heap.size _ _ rfl HO3.out a3 _ c3 _ rfl HBS3.out HLL.out hs3 ?_)
      intro v4 w4 ho4 hg4 _
      have hb4 := HBE3.out.trans (below_app HO3.out hg4 hs3)
      rw [← HE.out] at ho4
      have HO4 := hide ho4
      clear hg4 ho4 HO3 HBS3 HE
      go_wp2
      go_roundw
      case rel => exact ⟨k + 1, by omega, by go_num, HO4.out, hb4⟩
      case measure => simp [intOf]; omega
    · obtain rfl : j = k := by omega
      rw [List.take_of_length_le (by rw [HTl.out]; exact Nat.le_refl _)] at hown
      have hFB := cut100_bytes T
      rw [HTl.out] at hFB
      obtain ⟨ba, bc, rfl, hbb⟩ := Bs.of_owns hown
      have H3 := hide (H2.out.trans (hbel.mono H2.out.size))
      have HP3 := hide (Ps.laterB HPq.out hbel (Nat.le_refl _))
      have HB3 := hide (HBq.out.later hbel (Nat.le_refl _))
      have HBB := hide hbb
      have hbbc := hbb.2.1
      have hbb63 := hbb.2.2.1
      obtain ⟨F, HF⟩ : ∃ F, Hid (F = framesB (cut100 T)) := ⟨_, rfl⟩
      rw [← HF.out] at HBB hFB hbbc ⊢
      obtain ⟨fn, hfn⟩ : ∃ fn, fn = F.length := ⟨_, rfl⟩
      have HFL : Hid (F.length = fn) := hfn.symm
      rw [← hfn] at HBB hFB hbbc ⊢
      obtain ⟨W2, rfl⟩ : ∃ V, V = wr := ⟨wr, rfl⟩
      clear H2 HPq HBq hbel hown hbb hfn
      go_wp2
      go_loopw [14, 59] (fun v i wr => ∃ k : Nat, k ≤ j ∧ i = .int .i64 k ∧ (∃ ps, OwnP wr W2.heap.size v ps ∧ ps.length = k ∧ Bss W2 ps (cut100 (T.take k))) ∧ Below W2.heap.size W2 wr) (fun _ i _ => j - (intOf i).toNat)
      case atStart => exact ⟨0, by omega, rfl, ⟨[], OwnP.nil _ _, rfl, by simpa [cut100] using Bss.nil _⟩, Below.refl _ _⟩
      case round =>
        obtain ⟨k, hk, rfl, ⟨ps, hown, hps, hbss⟩, hbel⟩ := hrel
        by_cases hlt : k < j
        · obtain ⟨rb, ro, rfl, hcell⟩ := HP3.out.2 (by omega)
          obtain ⟨ta, tn, tc, hck0, hbs⟩ := hcell k hlt
          have hck : wr.cell? ⟨rb, ro + k, none⟩ = some (.slice ta tn tc) := (hbel.cell (p := ⟨rb, ro + k, none⟩) (lt_of_cell hck0)).trans hck0
          have HSh := hide (short_val ta tn tc 100 100 _ wr (hbs.later hbel (Nat.le_refl _)) (by omega) (by rfl))
          have HS := hide (hbss.snoc (hbs.upto 100))
          rw [← cut100_snoc T k (by rw [HTl.out]; exact hlt)] at HS
          have HO := hide hown
          have HBE := hide hbel
          have hsz := hbel.size
          clear hcell hbs hown hbel hck0 hbss
          go_wp2_with fail
          refine HSh.out.mono ?_
          rintro e w2 ⟨rfl, rfl⟩
          clear HSh
          go_wp2_with (at_builtin; refine wpList_appP rfl (.tmp 62) (.tmp 68) rfl W2.heap.size _ ps rfl (HO.out.later (below_alloc _ _ _ (Nat.le_refl _))) w2.heap.size (ta, min tn 100, tc) rfl (by simp [sv]) (by omega) (by simp; omega) ?_)
          intro v3 w3 ho3 hg3
          have hb3 := (HBE.out.trans (below_alloc w2 (.cells #[.slice ta (min tn 100) tc] 23) _ hsz)).grown hg3 (by simp; omega) (fun g hg => (HO.out.lt g hg).1)
          have HO3 := hide ho3
          have HB3' := hide hb3
          clear hg3 ho3 HO hb3
          go_wp2
          go_roundw
          case rel => exact ⟨k + 1, by omega, by go_num, ⟨_, HO3.out, by simp; omega, HS.out⟩, HB3'.out⟩
          case measure => simp [intOf]; omega
        · obtain rfl : j = k := by omega
          -- frames of the texts
          rw [List.take_of_length_le (by rw [HTl.out]; exact Nat.le_refl _)] at hbss
          obtain ⟨sa, sc, rfl, hSP⟩ := hown.ps (hbss.later hbel (Nat.le_refl _))
          rw [hps] at hSP ⊢
          have HSP := hide hSP
          have H4 := hide (H3.out.trans (hbel.mono H3.out.size))
          have HB4 := hide (HB3.out.later hbel (Nat.le_refl _))
          have HBB4 := hide (HBB.out.later hbel (Nat.le_refl _))
          have hroom := cut100_room T
          rw [HTl.out] at hroom
          obtain ⟨W3, rfl⟩ : ∃ V, V = wr := ⟨wr, rfl⟩
          have HPN := hide (framePut_ps none 0 0 [] sa j sc (cut100 T) W3 (Bs.nil _) (by omega) (by omega) (by omega) HSP.out (cut100_long T))
          rw [← HF.out, List.nil_append] at HPN
          clear hown hbss hbel hSP H3 HB3 HBB HP3 hps
          go_wp2_with fail
          refine HPN.out.mono ?_
          rintro e w5 ⟨v5, rfl, ho5, hb5⟩
          obtain ⟨a5, c5, rfl, hbs5⟩ := owns_bs ho5 HFL.out
          have S5 := hide (same_any _ _ _ _ _ _ _ _ _ hbs5 (HBB4.out.later hb5 (Nat.le_refl _)) true (by simp))
          have H5 := hide (H4.out.trans (hb5.mono H4.out.size))
          have HSP5 := hide (HSP.out.later hb5)
          have HB5 := hide (HB4.out.later hb5 (Nat.le_refl _))
          have HBB5 := hide (HBB4.out.later hb5 (Nat.le_refl _))
          clear ho5 hb5 hbs5 H4 HSP HB4 HBB4 HPN
          go_wp2_with fail
          refine S5.out.mono ?_
          rintro e w5' ⟨rfl, rfl⟩
          have HPR := hide (framePut_ps a rn c R sa j sc (cut100 T) w5' HB5.out (by omega) (by omega) (by omega) HSP5.out (cut100_long T))
          rw [← HF.out] at HPR
          clear S5 HSP5
          go_wp2_with fail
          refine HPR.out.mono ?_
          rintro e w6 ⟨v6, rfl, ho6, hb6⟩
          obtain ⟨a6, c6, rfl, hbs6⟩ := owns_bs ho6 (n := rn + fn) (by rw [List.length_append, HB5.out.1, HFL.out])
          have H6 := hide (H5.out.trans (hb6.mono H5.out.size))
          have HB6 := hide (HB5.out.later hb6 (Nat.le_refl _))
          have HBB6 := hide (HBB5.out.later hb6 (Nat.le_refl _))
          have P6 := hide hbs6
          have hRl := HB6.out.1
          clear ho6 hb6 hbs6 H5 HB5 HBB5 HPR
          have HRl := hide hRl
          clear hRl
          go_wp2_with (at_builtin; refine wpList_unguard (by rfl) ?_; refine wpList_app rfl (.const (.slice none 0 0)) (.tmp 80) rfl w6.heap.size _ [] rfl (World.ownsInts_nil _ _ _ _) a rn c R rfl HB6.out (by simp; omega) (Nat.le_refl _) ?_)
          intro v7 w7 ho7 hg7 _
          have C7 := hide (below_app (World.ownsInts_nil w6 w6.heap.size 5 .u8) hg7 (Nat.le_refl _))
          have O7 := hide ho7
          have hs7 := C7.out.size
          have HBB7 := hide (HBB6.out.later C7.out (Nat.le_refl _))
          have HLL : Hid (R.length + fn ≤ 70368744177664) := by show _ ≤ _; rw [HRl.out]; omega
          clear hg7 ho7
          go_wp2_with (at_builtin; refine wpList_unguard (by rfl) ?_; refine wpList_app rfl (.tmp 81) (.tmp 82) rfl w6.heap.size _ R rfl O7.out ba fn bc F rfl HBB7.out HLL.out hs7 ?_)
          intro v8 w8 ho8 hg8 _
          have C8 := C7.out.trans (below_app O7.out hg8 hs7)
          obtain ⟨a8, c8, rfl, hbs8⟩ := owns_bs ho8 (n := rn + fn) (by rw [List.length_append, HRl.out, HFL.out])
          have S8 := hide (same_any _ _ _ _ _ _ _ _ _ (P6.out.later C8 (Nat.le_refl _)) hbs8 true (by simp))
          have H8 := hide (H6.out.trans (C8.mono H6.out.size))
          have HB8 := hide (HB6.out.later C8 (Nat.le_refl _))
          have HBB8 := hide (HBB6.out.later C8 (Nat.le_refl _))
          clear ho8 hg8 C8 hbs8 HBB7 O7 C7 hs7 H6 HB6 HBB6 P6
          go_wp2_with fail
          refine S8.out.mono ?_
          rintro e w8' ⟨rfl, rfl⟩
          clear S8
          have HLF : Hid (F.length + rn ≤ 70368744177664) := by show _ ≤ _; rw [HFL.out]; omega
          go_wp2_with (at_builtin; refine wpList_app rfl (.const (.slice none 0 0)) (.tmp 89) rfl w8'.heap.size _ [] rfl (World.ownsInts_nil _ _ _ _) ba fn bc F rfl HBB8.out (by simp; omega) (Nat.le_refl _) ?_)
          intro v9 w9 ho9 hg9 _
          have C9 := hide (below_app (World.ownsInts_nil w8' w8'.heap.size 5 .u8) hg9 (Nat.le_refl _))
          have O9 := hide ho9
          have hs9 := C9.out.size
          have HB9 := hide (HB8.out.later C9.out (Nat.le_refl _))
          clear hg9 ho9
          go_wp2_with (at_builtin; refine wpList_app rfl (.tmp 90) (.tmp 91) rfl w8'.heap.size _ F rfl O9.out a rn c R rfl HB9.out HLF.out hs9 ?_)
          intro vA wA hoA hgA _
          have CA := C9.out.trans (below_app O9.out hgA hs9)
          obtain ⟨aA, cA, rfl, hbsA⟩ := owns_bs hoA (n := fn + rn) (by rw [List.length_append, HRl.out, HFL.out])
          have HA := hide (H8.out.trans (CA.mono H8.out.size))
          have HBA := hide (HB8.out.later CA (Nat.le_refl _))
          have HBBA := hide (HBB8.out.later CA (Nat.le_refl _))
          have HCA := hide hbsA
          clear hoA hgA CA hbsA HB9 O9 C9 hs9 H8 HB8 HBB8
          -- the list of three
          have hal := below_alloc wA (.cells #[.slice ba fn bc, .slice a rn c, .slice aA (fn + rn) cA] 23) wA.heap.size (Nat.le_refl _)
          have HO3 := hide (OwnP.lit3 wA (ba, fn, bc) (a, rn, c) (aA, fn + rn, cA))
          have HS3 := hide ((((Bss.nil (wA.alloc (.cells #[.slice ba fn bc, .slice a rn c, .slice aA (fn + rn) cA] 23))).snoc (HBBA.out.later hal (Nat.le_refl _))).snoc (HBA.out.later hal (Nat.le_refl _))).snoc (HCA.out.later hal (Nat.le_refl _)))
          have HAL := hide (HA.out.trans (hal.mono HA.out.size))
          have HBBL := hide (HBBA.out.later hal (Nat.le_refl _))
          have HALL := hide hal
          clear hal
          by_cases hfp : 0 < fn
          · go_wp2_with (at_builtin; refine wpList_app rfl (.const (.slice none 0 0)) (.tmp 97) rfl (wA.heap.size + 1) _ [] rfl (World.ownsInts_nil _ _ _ _) ba fn bc F rfl HBBL.out (by simp; omega) (by simp) ?_)
            intro vC wC hoC hgC _
            have C1 := below_app (World.ownsInts_nil (wA.alloc (.cells #[.slice ba fn bc, .slice a rn c, .slice aA (fn + rn) cA] 23)) (wA.heap.size + 1) 5 .u8) hgC (by simp)
            obtain ⟨gC, cC, rfl, hgCw, _⟩ := owns_shape hoC (by rw [HFL.out]; exact hfp)
            obtain ⟨r, i, hr, hr1, hr2, hi, hik⟩ := place at' fn hfp
            have hcr := range_of HBBL.out.2.2.2.2.2 i
            obtain ⟨y, hy, hy0, hy1, _⟩ := xor_u8 (F[i]?.getD 0) x hcr hx
            obtain ⟨d0, d1, d3, d4⟩ := setAt (i := i) (y := y) hoC (by rw [HFL.out]; exact hik) ⟨hy0, hy1⟩
            have hb4 := C1.trans (grown_below d4 hgCw (by have := C1.size; simpa using this))
            obtain ⟨a4, c4, e4, hbs4⟩ := owns_bs d3 (n := fn) (by simp [HFL.out])
            rw [HFL.out] at e4 ⊢
            obtain ⟨rfl, rfl⟩ : some ⟨gC, 0, none⟩ = a4 ∧ cC = c4 := by simpa using e4
            have HO4 := hide (HO3.out.later (hb4.mono (by simp)))
            have HC4 := hide hbs4
            have HB04 := hide (HALL.out.trans (hb4.mono (by omega)))
            clear C1 hgC hoC hcr d3 d4 hb4 e4 hbs4 HO3 HALL HBBL HS3 HAL
            go_upto_region 23 with fail
            generalize wC.setCell ⟨gC, i, none⟩ (.int .u8 y) = W4 at *
            clear d0 d1 hr hr1 hr2 hi hik hy
            obtain ⟨r, i2, hr, hr1, hr2, hi, hik⟩ := place cut fn hfp
            have s2 := fun W => run_uptoA ba fn bc i2 (i2 : Int) rfl (by omega) W
            have hs4 := HB04.out.size
            go_wp2_with (at_builtin; refine wpList_appPP rfl (.tmp 115) (.tmp 129) rfl wA.heap.size _ [(ba, fn, bc), (a, rn, c), (aA, fn + rn, cA)] rfl (HO4.out.later (below_alloc _ _ _ (Nat.le_refl _))) W4.heap.size (some ⟨gC, 0, none⟩, fn, cC) (ba, i2, bc) rfl (by simp [sv]) (by simp [sv]) (by simp) (by simp; omega) ?_)
            intro v5 W5 ho5 hg5
            have hal4 := below_alloc W4 (.cells #[.slice (some ⟨gC, 0, none⟩) fn cC, .slice ba i2 bc] 23) W4.heap.size (Nat.le_refl _)
            have hb5 : Below wA.heap.size wA W5 := (HB04.out.trans (hal4.mono hs4)).grown hg5 (by simp; omega) (fun g hg => by simp [Value.ownBlock] at hg; omega)
            have hC5 := (HC4.out.later hal4 (Nat.le_refl _)).but hg5 (fun ad e => by cases e; simp [Value.ownBlock]; omega)
            have hS5 := (((((Bss.nil W5).snoc (HBBA.out.later hb5 (Nat.le_refl _))).snoc (HBA.out.later hb5 (Nat.le_refl _))).snoc (HCA.out.later hb5 (Nat.le_refl _))).snoc hC5).snoc ((HBBA.out.take i2 (by omega)).later hb5 (Nat.le_refl _))
            obtain ⟨la, lc, rfl, hLP⟩ := ho5.ps hS5
            have HLP := hide hLP
            have HW := hide (HA.out.trans (hb5.mono HA.out.size))
            obtain ⟨LS, HLS⟩ : ∃ LS, Hid (LS = [F, R, F ++ R, F.set i y, F.take i2]) := ⟨_, rfl⟩
            have HLEN : Hid (∀ k, (LS.getD k []).length ≤ 1000) := by
              rw [HLS.out]
              intro k
              have e1 := HFL.out
              have e2 := HRl.out
              match k with
              | 0 => simp; omega
              | 1 => simp; omega
              | 2 => simp; omega
              | 3 => simp; omega
              | 4 => simp; omega
              | k + 5 => simp
            have HLP' : Hid (Ps W5 la 5 LS) := by rw [HLS.out]; exact HLP.out
            clear HLP hLP hS5 hC5 hb5 hal4 ho5 hg5 HBBA HBA HCA HO4 HC4 HB04 s2 hr hr1 hr2 hi hik HLS HA hs4
            have HLP := HLP'
            clear HLP'
            go_wp2
            go_loopg [133] 5 (fun g i wr => ∃ k : Nat, k ≤ 5 ∧ g = 5 - k ∧ i = .int .i64 k ∧ Below W5.heap.size W5 wr)
            case atStart => exact ⟨0, by omega, rfl, rfl, Below.refl _ _⟩
            case round =>
              obtain ⟨k, hk, rfl, rfl, hbel⟩ := hrel
              by_cases hlt : k < 5
              · obtain ⟨lb, lo, rfl, hcell⟩ := (HLP.out.later hbel).2 (by omega)
                obtain ⟨ca, cn, cc, hck, hbs⟩ := hcell k hlt
                have hcn : cn ≤ 1000 := by have := HLEN.out k; rw [hbs.1] at this; exact this
                generalize LS.getD k [] = l at *
                have HBS := hide hbs
                have HBE := hide hbel
                have HAl := hide (frameAll_any ca cn cc l wr hbs (by omega))
                clear hcell hbs hbel
                go_wp2_with fail
                refine HAl.out.mono ?_
                rintro e x1 ⟨p1, m1, q1, rfl, hP1, hm1, hx1⟩
                have HBS1 := hide (HBS.out.later hx1 (Nat.le_refl _))
                have HBE1 := hide (HBE.out.trans (hx1.mono HBE.out.size))
                have HFr := hide (refFrames_any ca cn cc l x1 HBS1.out (by omega))
                have HP1 := hide hP1
                clear hx1 HAl HBS HBE hP1 hck
                go_wp2_with fail
                refine HFr.out.mono ?_
                rintro e x2 ⟨p2, m2, q2, rfl, hP2, hm2, hx2⟩
                obtain rfl : m1 = m2 := HP1.out.1.symm.trans hP2.1
                have HBS2 := hide (HBS1.out.later hx2 (Nat.le_refl _))
                have HBE2 := hide (HBE1.out.trans (hx2.mono HBE1.out.size))
                have HP12 := hide (HP1.out.later hx2)
                have HP2 := hide hP2
                have HGe := hide (frameGet_any ca cn cc l x2 HBS2.out)
                clear hx2 HFr HBS1 HBE1 HP1 hP2
                go_wp2_with fail
                refine HGe.out.mono ?_
                rintro e x3 ⟨a3, k3, c3, rfl, hbs3, hx3⟩
                have HBS3 := hide (HBS2.out.later hx3 (Nat.le_refl _))
                have HBE3 := hide (HBE2.out.trans (hx3.mono HBE2.out.size))
                have HP13 := hide (HP12.out.later hx3)
                have HP23 := hide (HP2.out.later hx3)
                have HG3 := hide hbs3
                have HRG := hide (refGetFrame_new ca cn cc l x3 HBS3.out)
                clear hx3 HGe HBS2 HBE2 HP12 HP2 hbs3
                go_wp2_with fail
                refine HRG.out.mono ?_
                rintro e x4 ⟨a4, k4, c4, rfl, hbs4, _, hx4⟩
                have HBE4 := hide (HBE3.out.trans (hx4.mono HBE3.out.size))
                have HP14 := hide (HP13.out.later hx4)
                have HP24 := hide (HP23.out.later hx4)
                have SM := hide (same_any _ _ _ _ _ _ _ _ _ (HG3.out.later hx4 (Nat.le_refl _)) hbs4 true (by simp))
                clear hx4 HRG HBS3 HBE3 HP13 HP23 hbs4 HG3
                generalize getF l = G at *
                generalize allF cn l = AA at *
                go_wp2_with fail
                refine SM.out.mono ?_
                rintro e x5 ⟨rfl, rfl⟩
                clear SM
                go_wp2
                go_loopg [194] m1 (fun g i wq => ∃ q : Nat, q ≤ m1 ∧ g = m1 - q ∧ i = .int .i64 q ∧ Below x5.heap.size x5 wq)
                case atStart => exact ⟨0, by omega, rfl, rfl, Below.refl _ _⟩
                case round =>
                  obtain ⟨q, hq, rfl, rfl, hbq⟩ := hrel
                  by_cases hlq : q < m1
                  · obtain ⟨b1, o1, rfl, hc1⟩ := (HP14.out.later hbq).2 (by omega)
                    obtain ⟨b2, o2, rfl, hc2⟩ := (HP24.out.later hbq).2 (by omega)
                    obtain ⟨t1, u1, v1, z1, g1⟩ := hc1 q hlq
                    obtain ⟨t2, u2, v2, z2, g2⟩ := hc2 q hlq
                    have SQ := hide (fun nq => same_any _ _ _ _ _ _ _ _ (wr.drewN nq) (g1.later (below_drewN (Below.refl wr.heap.size wr) nq) (Nat.le_refl _)) (g2.later (below_drewN (Below.refl wr.heap.size wr) nq) (Nat.le_refl _)) true (by simp))
                    have HBQ := hide hbq
                    clear hc1 hc2 g1 g2 hbq
                    go_wp2
                    go_quiet ((go_at_call 9; exact Calls.quiet_of_same (SQ.out _)))
                    go_wp2
                    go_roundg (m1 - (q + 1))
                    case measure => omega
                    case rel => exact ⟨q + 1, by omega, rfl, by go_num, below_drewN HBQ.out nq⟩
                  · have HBQ := hide (HBE4.out.trans (hbq.mono HBE4.out.size))
                    clear hbq
                    go_wp2
                    go_roundg (5 - (k + 1))
                    case measure => omega
                    case rel => exact ⟨k + 1, by omega, rfl, by go_num, HBQ.out⟩
              · have HEND := hide (HW.out.trans (hbel.mono HW.out.size))
                go_wp2
                go_ret
                exact ⟨rfl, HEND.out⟩
          · have HLP0 := HO3.out.ps HS3.out
            obtain ⟨la, lc, ela, hLP⟩ := HLP0
            obtain ⟨rfl, rfl⟩ : some ⟨wA.heap.size, 0, none⟩ = la ∧ 3 = lc := by simpa using ela
            have HW := hide HAL.out
            obtain ⟨LS, HLS⟩ : ∃ LS, Hid (LS = [F, R, F ++ R]) := ⟨_, rfl⟩
            have HLEN : Hid (∀ k, (LS.getD k []).length ≤ 1000) := by
              rw [HLS.out]
              intro k
              have e1 := HFL.out
              have e2 := HRl.out
              match k with
              | 0 => simp; omega
              | 1 => simp; omega
              | 2 => simp; omega
              | k + 3 => simp
            have HLP : Hid (Ps (wA.alloc (.cells #[.slice ba fn bc, .slice a rn c, .slice aA (fn + rn) cA] 23)) (some ⟨wA.heap.size, 0, none⟩) 3 LS) := by rw [HLS.out]; exact hLP
            clear hLP HO3 HS3 HALL HBBL HBBA HBA HCA HAL ela HLS HA
            go_upto_region 24 with fail
            generalize wA.alloc (.cells #[.slice ba fn bc, .slice a rn c, .slice aA (fn + rn) cA] 23) = W5 at *
            generalize (some ⟨wA.heap.size, 0, none⟩ : Option Addr) = la at *
            go_wp2
            go_loopg [133] 3 (fun g i wr => ∃ k : Nat, k ≤ 3 ∧ g = 3 - k ∧ i = .int .i64 k ∧ Below W5.heap.size W5 wr)
            case atStart => exact ⟨0, by omega, rfl, rfl, Below.refl _ _⟩
            case round =>
              obtain ⟨k, hk, rfl, rfl, hbel⟩ := hrel
              by_cases hlt : k < 3
              · obtain ⟨lb, lo, rfl, hcell⟩ := (HLP.out.later hbel).2 (by omega)
                obtain ⟨ca, cn, cc, hck, hbs⟩ := hcell k hlt
                have hcn : cn ≤ 1000 := by have := HLEN.out k; rw [hbs.1] at this; exact this
                generalize LS.getD k [] = l at *
                have HBS := hide hbs
                have HBE := hide hbel
                have HAl := hide (frameAll_any ca cn cc l wr hbs (by omega))
                clear hcell hbs hbel
                go_wp2_with fail
                refine HAl.out.mono ?_
                rintro e x1 ⟨p1, m1, q1, rfl, hP1, hm1, hx1⟩
                have HBS1 := hide (HBS.out.later hx1 (Nat.le_refl _))
                have HBE1 := hide (HBE.out.trans (hx1.mono HBE.out.size))
                have HFr := hide (refFrames_any ca cn cc l x1 HBS1.out (by omega))
                have HP1 := hide hP1
                clear hx1 HAl HBS HBE hP1 hck
                go_wp2_with fail
                refine HFr.out.mono ?_
                rintro e x2 ⟨p2, m2, q2, rfl, hP2, hm2, hx2⟩
                obtain rfl : m1 = m2 := HP1.out.1.symm.trans hP2.1
                have HBS2 := hide (HBS1.out.later hx2 (Nat.le_refl _))
                have HBE2 := hide (HBE1.out.trans (hx2.mono HBE1.out.size))
                have HP12 := hide (HP1.out.later hx2)
                have HP2 := hide hP2
                have HGe := hide (frameGet_any ca cn cc l x2 HBS2.out)
                clear hx2 HFr HBS1 HBE1 HP1 hP2
                go_wp2_with fail
                refine HGe.out.mono ?_
                rintro e x3 ⟨a3, k3, c3, rfl, hbs3, hx3⟩
                have HBS3 := hide (HBS2.out.later hx3 (Nat.le_refl _))
                have HBE3 := hide (HBE2.out.trans (hx3.mono HBE2.out.size))
                have HP13 := hide (HP12.out.later hx3)
                have HP23 := hide (HP2.out.later hx3)
                have HG3 := hide hbs3
                have HRG := hide (refGetFrame_new ca cn cc l x3 HBS3.out)
                clear hx3 HGe HBS2 HBE2 HP12 HP2 hbs3
                go_wp2_with fail
                refine HRG.out.mono ?_
                rintro e x4 ⟨a4, k4, c4, rfl, hbs4, _, hx4⟩
                have HBE4 := hide (HBE3.out.trans (hx4.mono HBE3.out.size))
                have HP14 := hide (HP13.out.later hx4)
                have HP24 := hide (HP23.out.later hx4)
                have SM := hide (same_any _ _ _ _ _ _ _ _ _ (HG3.out.later hx4 (Nat.le_refl _)) hbs4 true (by simp))
                clear hx4 HRG HBS3 HBE3 HP13 HP23 hbs4 HG3
                generalize getF l = G at *
                generalize allF cn l = AA at *
                go_wp2_with fail
                refine SM.out.mono ?_
                rintro e x5 ⟨rfl, rfl⟩
                clear SM
                go_wp2
                go_loopg [194] m1 (fun g i wq => ∃ q : Nat, q ≤ m1 ∧ g = m1 - q ∧ i = .int .i64 q ∧ Below x5.heap.size x5 wq)
                case atStart => exact ⟨0, by omega, rfl, rfl, Below.refl _ _⟩
                case round =>
                  obtain ⟨q, hq, rfl, rfl, hbq⟩ := hrel
                  by_cases hlq : q < m1
                  · obtain ⟨b1, o1, rfl, hc1⟩ := (HP14.out.later hbq).2 (by omega)
                    obtain ⟨b2, o2, rfl, hc2⟩ := (HP24.out.later hbq).2 (by omega)
                    obtain ⟨t1, u1, v1, z1, g1⟩ := hc1 q hlq
                    obtain ⟨t2, u2, v2, z2, g2⟩ := hc2 q hlq
                    have SQ := hide (fun nq => same_any _ _ _ _ _ _ _ _ (wr.drewN nq) (g1.later (below_drewN (Below.refl wr.heap.size wr) nq) (Nat.le_refl _)) (g2.later (below_drewN (Below.refl wr.heap.size wr) nq) (Nat.le_refl _)) true (by simp))
                    have HBQ := hide hbq
                    clear hc1 hc2 g1 g2 hbq
                    go_wp2
                    go_quiet ((go_at_call 9; exact Calls.quiet_of_same (SQ.out _)))
                    go_wp2
                    go_roundg (m1 - (q + 1))
                    case measure => omega
                    case rel => exact ⟨q + 1, by omega, rfl, by go_num, below_drewN HBQ.out nq⟩
                  · have HBQ := hide (HBE4.out.trans (hbq.mono HBE4.out.size))
                    clear hbq
                    go_wp2
                    go_roundg (3 - (k + 1))
                    case measure => omega
                    case rel => exact ⟨k + 1, by omega, rfl, by go_num, HBQ.out⟩
              · have HEND := hide (HW.out.trans (hbel.mono HW.out.size))
                go_wp2
                go_ret
                exact ⟨rfl, HEND.out⟩

theorem own : ownKnob Tryz.prog.godebug = none := by kernel_rfl
theorem laidOut : laidOutB Tryz.prog = true := by kernel_rfl

set_option maxRecDepth 100000 in
theorem lifted (os : Os) (started : os.Started) (H : Type) (enc : TypeId × Value → H) :
    ReturnsInHanded {} Tryz.checked os 3 .any (Rows.frameAllSpec.pre6 enc Tryz.prog Tryz.f3 Rows.frameAllRow.domain false) (Rows.frameAllSpec.post enc Tryz.prog Tryz.f3 false true false false) := by
  refine returnsInHanded_of_change (C := Tryz.checked) own started (by kernel_rfl) Tryz.func3
    (ChangeSpec.witness6 (enc := enc) (C := Tryz.checked) false ⟨#[], #[.slice none 0 0, .int .i64 0, .int .u8 0, .int .i64 0, .slice none 0 0], []⟩ 8 (by kernel_rfl) (by kernel_rfl) (by kernel_rfl) (by kernel_rfl)) ?_
  intro W base args ds gs before hval0 hW hcnd _
  have hval : ∀ (j : Nat) t v, Tryz.f3.params[j]? = some t → args[j]? = some v → Value.okWide Tryz.prog W .any base t v := hval0
  have hW' := hW
  obtain ⟨p, q, hA0, hV, rfl, hfz, hnd⟩ := hW
  have hA : DataW.TrodAll enc Tryz.prog W 0 (fun _ => true) true Tryz.f3.params.toList args.toList ds p := hA0
  rw [Tryz.params3] at hA hval
  obtain ⟨v0, vs0, d0, ds0, p0, q0, hargs, rfl, rfl, h0, r0⟩ := trodAll_cons hA
  obtain ⟨v1, vs1, d1, ds1, p1, q1, rfl, rfl, rfl, h1, r1⟩ := trodAll_cons r0
  obtain ⟨v2, vs2, d2, ds2, p2, q2, rfl, rfl, rfl, h2, r2⟩ := trodAll_cons r1
  obtain ⟨v3, vs3, d3, ds3, p3, q3, rfl, rfl, rfl, h3, r3⟩ := trodAll_cons r2
  obtain ⟨v4, vs4, d4, ds4, p4, q4, rfl, rfl, rfl, h4, r4⟩ := trodAll_cons r3
  obtain ⟨rfl, rfl, rfl⟩ := trodAll_nil r4
  obtain rfl : args = #[v0, v1, v2, v3, v4] := by cases args; simp_all
  obtain ⟨rfl, rfl⟩ := trodVars_none hV
  obtain ⟨a0, n0, c0, rfl⟩ := okWide_slice Tryz.underlying22 (hval 0 22 v0 rfl rfl)
  have k0 := h0
  have lt0 : ∀ x ∈ p0, x.block < W.heap.size := by obtain ⟨m, hm⟩ := k0; exact DataW.trod_lt m _ _ _ hm
  obtain ⟨z0, w0⟩ : ∃ ls, Ps W a0 n0 ls ∧ n0 ≤ c0 ∧ c0 ≤ 9223372036854775807 := by
    obtain ⟨fuel, hf⟩ := h0
    rcases Deep.open_int_rows Tryz.underlying22 Tryz.underlying23 Tryz.underlying5 (by kernel_rfl) (by kernel_rfl) hf with ⟨hcs, _⟩ | ⟨x, l, c, A, L, C, Z, hcs, _, hl, hm, _, hr⟩
    · simp [Value.cells] at hcs; obtain ⟨rfl, rfl, rfl⟩ := hcs; exact ⟨[], ⟨rfl, fun h => absurd h (Nat.lt_irrefl 0)⟩, Nat.le_refl _, by omega⟩
    · simp [Value.cells] at hcs; obtain ⟨rfl, rfl, rfl⟩ := hcs; exact ⟨_, ps_rows hl hr, hl, by simpa [maxLen] using hm⟩
  obtain ⟨a1, rfl, rfl, rfl, w1⟩ := open_int Tryz.underlying3 (hval 1 3 v1 rfl rfl) h1
  obtain ⟨a2, rfl, rfl, rfl, w2⟩ := open_int Tryz.underlying5 (hval 2 5 v2 rfl rfl) h2
  obtain ⟨a3, rfl, rfl, rfl, w3⟩ := open_int Tryz.underlying3 (hval 3 3 v3 rfl rfl) h3
  obtain ⟨a4, n4, c4, rfl⟩ := okWide_slice Tryz.underlying23 (hval 4 23 v4 rfl rfl)
  have k4 := h4
  have lt4 : ∀ x ∈ p4, x.block < W.heap.size := by obtain ⟨m, hm⟩ := k4; exact DataW.trod_lt m _ _ _ hm
  obtain ⟨z4, w4⟩ : ∃ zs, Row .u8 W a4 n4 c4 zs := by
    obtain ⟨fuel, hf⟩ := h4
    rcases open_ints Tryz.underlying23 Tryz.underlying5 (by kernel_rfl) hf with ⟨hcs, _⟩ | ⟨x, l, c, zs, hcs, _, hl, hm, hz, _, hcell, hwz⟩
    · simp [Value.cells] at hcs; obtain ⟨rfl, rfl, rfl⟩ := hcs; exact ⟨[], row_none _ _⟩
    · simp [Value.cells] at hcs; obtain ⟨rfl, rfl, rfl⟩ := hcs; exact ⟨_, row_some hl hm (by simpa using hz) hcell hwz⟩
  clear hA0 hval0
  refine (walk a0 n0 c0 z0 a1 a2 a3 a4 n4 c4 z4 W w0.1 w0.2.1 w0.2.2 w1 w2 w3 w4).mono fun e W' ⟨he, bel⟩ => ?_
  subst he
  exact ⟨_, rfl, _, _, _, [], _, [], hW', trodAll_mk1 (shut_bool Tryz.underlying4 _), (trodAll_cons_mk (Below.trod laidOut (by kernel_rfl) (of_decide_eq_true (by kernel_rfl)) k0 bel lt0) (trodAll_cons_mk (shut_int Tryz.underlying3 w1) (trodAll_cons_mk (shut_int Tryz.underlying5 w2) (trodAll_cons_mk (shut_int Tryz.underlying3 w3) (trodAll_cons_mk (Below.trod laidOut (by kernel_rfl) (of_decide_eq_true (by kernel_rfl)) k4 bel lt4) trodAll_mk0))))), rfl, bel.frame _, fun h => by cases h⟩

theorem over : Rows.frameAllRow.holds Tryz.pinned (OpenSpec.ofChange Rows.frameAllSpec) :=
  OpenClaim.holds_of_wide 3 Tryz.f3 rfl rfl rfl rfl rfl rfl rfl ⟨rfl, rfl, rfl, rfl, rfl⟩ rfl rfl rfl rfl rfl (by kernel_rfl) Tryz.func3 (by kernel_rfl)
    (of_decide_eq_true (by kernel_rfl)) (by unfold Func.isWrapper; first | (rw [if_pos (by decide +kernel)]; kernel_rfl) | (rw [if_neg (by decide +kernel)]; exact ⟨rfl, rfl⟩))
    (fun os started H enc _ => lifted os started H enc)

theorem proved : Rows.FrameAllSaid := over
#print axioms proved
end Go.Proofs.YtgpfpmocdmeldaaGreat.frameAll
