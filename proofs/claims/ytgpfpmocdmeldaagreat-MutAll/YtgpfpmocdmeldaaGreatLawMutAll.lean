/- The statement MutAll: whatever changes are written and read back as the document says, or left out, a byte turned, an end cut off, and whatever bytes are read as it says too, for all changes, numbers and bytes. -/
import Derived.Test.YtgpfpmocdmeldaaGreatFrameP
import Derived.Test.YtgpfpmocdmeldaaGreatMutQ
import Derived.Test.YtgpfpmocdmeldaaGreatMutI
import Derived.Test.YtgpfpmocdmeldaaGreatBegun
import Derived.Deep.DeepCutAuto
import Derived.Deep.LoopGhost
import Derived.Deep.RegionHeld3
namespace Go.Proofs.YtgpfpmocdmeldaaGreat.mutAll
open Go.ChangeShapes Go.WideShapes Go.ChangeAt Go.RowKit

set_option maxRecDepth 100000 in
set_option maxHeartbeats 4000000 in
theorem walk (pa : Option Addr) (m mc : Nat) (ms : List Mt) (at' x : Int) (a : Option Addr) (n c : Nat) (z : List Int) (w : World)
    (hP : Ms w pa m ms) (hw : ∀ m ∈ ms, wfM m) (hmc : m ≤ mc) (_hmc2 : mc ≤ 9223372036854775807) (wa : (Lit.int .i64 at').wf = true) (wx : (Lit.int .u8 x).wf = true) (h : Row .u8 w a n c z) :
    Calls Tryz.prog 4 #[.slice pa m mc, .int .i64 at', .int .u8 x, .slice a n c] w fun e w' => e = .returned (.bool true) ∧ Below w.heap.size w w' := by
  have HB := hide h.bs
  have HP := hide hP
  have hat := wf_i64 wa
  have hx := of_wf_u8 wx
  have hnc := h.2.1
  have hc63 := h.2.2.1
  have HWF := hide hw
  clear h hP wa wx hw
  go_enter Tryz.func4, Tryz.ntmps4
  go_wp2_with fail
  refine (begun_true _).mono ?_
  rintro e w1 ⟨rfl, hb1⟩
  have H1 := hide hb1
  have HB1 := hide (HB.out.later hb1 (Nat.le_refl _))
  have HP1 := hide (HP.out.later hb1 (Nat.le_refl _))
  clear hb1 HB HP
  obtain ⟨j, hj⟩ : ∃ j, j = min m 8 := ⟨_, rfl⟩
  have m1 : (if (8 : Int) < (m : Int) then (8 : Int) else (m : Int)) = (j : Int) := by
    by_cases hh : 8 < m
    · rw [if_pos (by omega)]; omega
    · rw [if_neg (by omega)]; omega
  have hj8 : j ≤ 8 := by omega
  have hjm : j ≤ m := by omega
  have s1 := fun W => run_uptoM pa m mc j (j : Int) rfl (by omega) W
  have HPj := hide (HP1.out.take j hjm)
  have HSh := hide (fun nq => short_val a n c 20 20 z (w1.drewN nq) (HB1.out.later (below_drewN (Below.refl w1.heap.size w1) nq) (Nat.le_refl _)) (by omega) (by rfl))
  have HBr := hide (HB1.out.upto 20)
  have hrn : min n 20 ≤ 20 := Nat.min_le_right _ _
  have hrc : min n 20 ≤ c := by omega
  have HTW : Hid (∀ m ∈ ms.take j, wfM m) := fun m hm => HWF.out m (List.mem_of_mem_take hm)
  generalize ms.take j = T at *
  generalize z.take 20 = R at *
  generalize min n 20 = rn at *
  clear HB1 HP1 hj HWF
  go_wp2
  go_quiet ((go_at_call 7; exact Calls.quiet_of_same (HSh.out _)))
  have hbq := below_drewN (Below.refl w1.heap.size w1) nq
  have H2 := hide (H1.out.trans (hbq.mono H1.out.size))
  have HPq := hide (HPj.out.later hbq (Nat.le_refl _))
  have HBq := hide (HBr.out.later hbq (Nat.le_refl _))
  generalize w1.drewN nq = W1 at *
  have HTl := hide HPq.out.1
  clear hbq H1 HPj HBr HSh s1 m1
  go_wp2
  go_loopw [10, 11, 41] (fun vw vg i wr => ∃ k : Nat, k ≤ j ∧ i = .int .i64 k ∧ Hid (wr.ownsInts W1.heap.size 5 .u8 vw (putsB (T.take k))) ∧ Hid (OwnM wr W1.heap.size vg ((T.take k).filter mayB)) ∧ Hid (∀ g, vw.ownBlock = some g → vg.ownBlock ≠ some g) ∧ Hid (Below W1.heap.size W1 wr)) (fun _ _ i _ => j - (intOf i).toNat)
  case atStart => exact ⟨0, by omega, rfl, hide (by simpa [putsB] using World.ownsInts_nil _ _ _ _), hide (by simpa using OwnM.nil _ _), fun g hg => by simp [Value.ownBlock] at hg, Below.refl _ _⟩
  case round =>
    obtain ⟨k, hk, rfl, HW, HG, HSp, HBE⟩ := hrel
    by_cases hlt : k < j
    · obtain ⟨y, hy⟩ : ∃ y, T[k]? = some y := ⟨_, List.getElem?_eq_getElem (by rw [HTl.out]; exact hlt)⟩
      obtain ⟨b, o, rfl, _⟩ := HPq.out.2 (by omega)
      have six := (HPq.out.later HBE.out (Nat.le_refl _)).six k y hy
      have HY := hide hy
      have HE1 := hide (filter_take T k y hy)
      have HE2 := hide (putsB_take T k y hy)
      have hyv := (HTW.out y (List.mem_of_getElem? hy)).ok
      have hLw : (putsB (T.take k)).length ≤ 15 * 8 := by
        have h1 := putsB_len (T.take k)
        have h2 : (T.take k).length ≤ 8 := by rw [List.length_take]; omega
        omega
      have hLg : ((T.take k).filter mayB).length ≤ 8 := Nat.le_trans (List.length_filter_le _ _) (by rw [List.length_take]; omega)
      have HLw := hide hLw
      have HLg := hide hLg
      have HSX := hide six
      have HYV := hide hyv
      have C1 : Hid (∀ W, Below wr.heap.size wr W → Calls Tryz.prog 15 #[mV y] W fun e w' => e = .returned (.bool (mayB y)) ∧ Below wr.heap.size wr w' ∧ Six w' b o k y) := fun W hW => (may_any y W).mono (by
        rintro e w' ⟨rfl, hb⟩
        have hb' := hW.trans (hb.mono hW.size)
        exact ⟨rfl, hb', HSX.out.later hb' (Nat.le_refl _)⟩)
      have C2 : Hid (∀ W, Below wr.heap.size wr W → Calls Tryz.prog 16 #[mV y] W fun e w' => e = .returned (.bool (mayB y)) ∧ Below wr.heap.size wr w' ∧ Six w' b o k y) := fun W hW => (refMay_any y W).mono (by
        rintro e w' ⟨rfl, hb⟩
        have hb' := hW.trans (hb.mono hW.size)
        exact ⟨rfl, hb', HSX.out.later hb' (Nat.le_refl _)⟩)
      obtain ⟨MB, HMB⟩ : ∃ x, Hid (x = mayB y) := ⟨_, rfl⟩
      rw [← HMB.out] at C1 C2 HE1
      have HM := hide (fun (h : mayB y = true) W => refMut_any y h HYV.out W)
      have hB0 := Below.refl wr.heap.size wr
      obtain ⟨z0, z1, z2, z3, z4, z5⟩ := six
      clear hy hyv hLw hLg
      go_upto_region 10 with fail
      go_cut [41, 54] from 41 to 74 (fun i t wx => i = .int .i64 k ∧ t = .bool false ∧ Hid (Below wr.heap.size wr wx))
      case first =>
        obtain ⟨yk, yg, yn, yi, yf, yx⟩ := y
        unfold Six mV at C1 C2
        simp only at *
        go_region_held3 (fun w' => w'.cell? ⟨b, o + k * 6, none⟩ = some (.int .i64 yk) ∧ w'.cell? ⟨b, o + k * 6 + 1, none⟩ = some (.int .i64 yg) ∧ w'.cell? ⟨b, o + k * 6 + 2, none⟩ = some (.int .i64 yn) ∧ w'.cell? ⟨b, o + k * 6 + 3, none⟩ = some (.int .i64 yi) ∧ w'.cell? ⟨b, o + k * 6 + 4, none⟩ = some (.int .i64 yf) ∧ w'.cell? ⟨b, o + k * 6 + 5, none⟩ = some (.int .i64 yx)) (first | exact ⟨z0, z1, z2, z3, z4, z5⟩ | exact s5 | exact s6 | go_keep) (first | (go_at_call 15; (refine (C1.out _ ?_).mono ?_; (focus (repeat (first | exact hB0 | assumption | refine Below.drew ?_))); rintro e W5 ⟨rfl, hB5, s5⟩)) | (go_at_call 16; (refine (C2.out _ ?_).mono ?_; (focus (repeat (first | exact hB0 | assumption | refine Below.drew ?_))); rintro e W6 ⟨rfl, hB6, s6⟩)))
        all_goals
          go_wp2
          go_meet
          case rel => exact ⟨rfl, by simp, by repeat (first | assumption | refine Below.drew ?_)⟩
      case rest =>
        obtain ⟨rfl, rfl, HBX⟩ := hcut
        have C3 := hide (C2.out wc HBX.out)
        obtain ⟨z0, z1, z2, z3, z4, z5⟩ := HSX.out.later HBX.out (Nat.le_refl _)
        have hHP := hide (fun W => heap_alloc_new W (mtObj y))
        have hHA := hide (fun (W : World) => below_alloc W (mtObj y) W.heap.size (Nat.le_refl _))
        have hSX := hide (fun (W : World) (h : Below W1.heap.size W1 W) => (HPq.out.later h (Nat.le_refl _)).six k y HY.out)
        have hEQ : Hid (MB = true → putB y = mutB y) := fun e => by rw [putB, ← HMB.out, e]; rfl
        have hEF : Hid (MB = false → putB y = []) := fun e => by rw [putB, ← HMB.out, e]; rfl
        have hML := mutB_len y
        clear C1 C2 HSX
        obtain ⟨yk, yg, yn, yi, yf, yx⟩ := y
        unfold mV at C3 HM
        unfold mtObj at hHP hHA
        simp only at *
        go_wp2_with fail
        refine C3.out.mono ?_
        rintro e w3 ⟨rfl, hb3, _⟩
        have HB3 := hide (HBE.out.trans (hb3.mono HBE.out.size))
        have HW3 := hide (owns_later HW.out hb3)
        have HG3 := hide (HG.out.later hb3)
        clear z0 z1 z2 z3 z4 z5 HBX C3 hb3 HW HG HBE
        obtain ⟨z0, z1, z2, z3, z4, z5⟩ := hSX.out w3 HB3.out
        simp only at z0 z1 z2 z3 z4 z5
        cases MB with
        | true =>
          have hMt := hide (HM.out HMB.out.symm)
          have hmb := hEQ.out rfl
          clear HM hEF hEQ
          rw [hmb] at HE2
          go_wp2_with fail
          refine (hMt.out _).mono ?_
          rintro e w4 ⟨v4, rfl, ho4, hb4⟩
          obtain ⟨a4, c4, rfl, hbs4⟩ := Bs.of_owns ho4
          have HB4 := hide (HB3.out.trans (hb4.mono HB3.out.size))
          have HW4 := hide (owns_later HW3.out hb4)
          have HG4 := hide (HG3.out.later hb4)
          have hs4 := HB4.out.size
          have HBS4 := hide hbs4
          have HLL : Hid ((putsB (T.take k)).length + (mutB ⟨yk, yg, yn, yi, yf, yx⟩).length ≤ 70368744177664) := by show _ ≤ _; have := HLw.out; omega
          clear z0 z1 z2 z3 z4 z5 ho4 hb4 hbs4 hMt HB3 HW3 HG3 hmb
          generalize mutB ⟨yk, yg, yn, yi, yf, yx⟩ = YB at *
          go_wp2_with (at_builtin; refine wpList_app rfl (.tmp 60) (.tmp 65) rfl W1.heap.size _ _ rfl HW4.out a4 _ c4 _ rfl HBS4.out HLL.out hs4 ?_)
          intro v5 w5 ho5 hg5 hk5
          rw [← HE2.out] at ho5
          have HG5 := hide (HG4.out.kept hg5 (sep_ne HSp.out))
          have HS5 := hide (sep_step HSp.out hk5 (fun g hg => (HG4.out.lt g hg).2))
          have HB5 := hide (HB4.out.trans (below_app HW4.out hg5 hs4))
          have HW5 := hide ho5
          have hs5 := HB5.out.size
          obtain ⟨z0, z1, z2, z3, z4, z5⟩ := hSX.out w5 HB5.out
          simp only at z0 z1 z2 z3 z4 z5
          have hEg : Hid (((T.take k).filter mayB).length ≤ 1000000) := by show _ ≤ _; have := HLg.out; omega
          clear ho5 hg5 hk5 HW4 HG4 HB4 HBS4 hSX
          go_wp2_with (at_builtin; refine wpList_appM2 rfl (.tmp 67) (.tmp 72) rfl W1.heap.size _ _ rfl (HG5.out.later (hHA.out w5)) w5.heap.size ⟨yk, yg, yn, yi, yf, yx⟩ rfl (hHP.out w5) hEg.out (by simp; omega) ?_)
          intro v6 w6 ho6 hg6 hk6
          have hW5a := owns_alloc HW5.out (.cells #[.int .i64 yk, .int .i64 yg, .int .i64 yn, .int .i64 yi, .int .i64 yf, .int .i64 yx] 40 (0, 0))
          have HW6 := hide (owns_kept hW5a hg6 (sep_ne (sep_symm HS5.out)))
          have HS6 := hide (sep_symm (sep_step (sep_symm HS5.out) hk6 (fun g hg => by have := (hW5a.1.lt g hg).2; simpa using this)))
          have HB6 := hide ((HB5.out.trans ((hHA.out w5).mono hs5)).grown hg6 (by simp; omega) (fun g hg => (HG5.out.lt g hg).1))
          have e6 : (T.take (k + 1)).filter mayB = (T.take k).filter mayB ++ [⟨yk, yg, yn, yi, yf, yx⟩] := by rw [HE1.out]; rfl
          rw [← e6] at ho6
          have HG6 := hide ho6
          clear z0 z1 z2 z3 z4 z5 ho6 hg6 hk6 hW5a HG5 HS5 HB5 HW5 e6 hHA hHP
          go_wp2
          go_roundw
          case rel => exact ⟨k + 1, by omega, by go_num, HW6, HG6, HS6, HB6⟩
          case measure => simp [intOf]; omega
        | false =>
          have hmb := hEF.out rfl
          rw [hmb, List.append_nil] at HE2
          have e6 : (T.take (k + 1)).filter mayB = (T.take k).filter mayB := by rw [HE1.out]; simp
          have hw3 := HW3.out
          have hg3 := HG3.out
          rw [← HE2.out] at hw3
          rw [← e6] at hg3
          have HW6 := hide hw3
          have HG6 := hide hg3
          clear z0 z1 z2 z3 z4 z5 hw3 hg3 e6 hHA hHP HM hEF hEQ hmb HW3 HG3 hSX
          go_wp2
          go_roundw
          case rel => exact ⟨k + 1, by omega, by go_num, HW6, HG6, HSp, HB3⟩
          case measure => simp [intOf]; omega
    · obtain rfl : j = k := by omega
      have eT : T.take j = T := List.take_of_length_le (by rw [HTl.out]; exact Nat.le_refl _)
      rw [eT] at HW HG
      obtain ⟨L, HL⟩ : ∃ L, Hid (L = T.filter mayB) := ⟨_, rfl⟩
      have HLM : Hid (∀ m ∈ L, mayB m = true ∧ vOk m) := by
        rw [HL.out]
        intro m hm
        have h1 := List.mem_filter.1 hm
        exact ⟨h1.2, (HTW.out m h1.1).ok⟩
      have hg := HG.out
      rw [← HL.out] at hg
      have hLl : L.length ≤ 8 := by rw [HL.out]; exact Nat.le_trans (List.length_filter_le _ _) (by rw [HTl.out]; omega)
      obtain ⟨la, lc, rfl, hLM⟩ := hg.ms
      obtain ⟨q, hq⟩ : ∃ q, q = L.length := ⟨_, rfl⟩
      rw [← hq] at hLM hLl ⊢
      have HLn : Hid (L.length = q) := hq.symm
      obtain ⟨ba, bc, rfl, hbb⟩ := Bs.of_owns HW.out
      obtain ⟨F, HF⟩ : ∃ F, Hid (F = putsB T) := ⟨_, rfl⟩
      have HFL : Hid (F = putsB L) := by show _ = _; rw [HL.out, putsB_filter, HF.out]
      have hFB : F.length ≤ 120 := by
        have h1 := putsB_len L
        rw [HLn.out] at h1
        rw [HFL.out]; omega
      rw [← HF.out] at hbb ⊢
      obtain ⟨fn, hfn⟩ : ∃ fn, fn = F.length := ⟨_, rfl⟩
      have HFN : Hid (F.length = fn) := hfn.symm
      rw [← hfn] at hbb hFB ⊢
      have hbbc := hbb.2.1
      have hbb63 := hbb.2.2.1
      have H3 := hide (H2.out.trans (HBE.out.mono H2.out.size))
      have HB3 := hide (HBq.out.later HBE.out (Nat.le_refl _))
      have HP3 := hide (HPq.out.later HBE.out (Nat.le_refl _))
      have HBB := hide hbb
      have HLS := hide hLM
      obtain ⟨W2, rfl⟩ : ∃ V, V = wr := ⟨wr, rfl⟩
      have HPu := hide (mutPut_ms a rn c R pa j mc T W2 HB3.out (by omega) (by omega) HP3.out (fun m hm => (HTW.out m hm).ok))
      rw [← HF.out] at HPu
      clear HW HG HSp HBE hg hLM hbb hq hfn H2 HBq HPq HP3 eT
      go_wp2_with fail
      refine HPu.out.mono ?_
      rintro e w6 ⟨v6, rfl, ho6, hb6⟩
      have hRl := HB3.out.1
      obtain ⟨a6, c6, rfl, hbs6⟩ := owns_bs ho6 (n := rn + fn) (by rw [List.length_append, hRl, HFN.out])
      have H6 := hide (H3.out.trans (hb6.mono H3.out.size))
      have HB6 := hide (HB3.out.later hb6 (Nat.le_refl _))
      have HBB6 := hide (HBB.out.later hb6 (Nat.le_refl _))
      have HLS6 := hide (HLS.out.later hb6 (Nat.le_refl _))
      have P6 := hide hbs6
      have HRl := hide hRl
      clear ho6 hb6 hbs6 H3 HB3 HBB HPu hRl HLS
      go_wp2_with (at_builtin; refine wpList_app rfl (.const (.slice none 0 0)) (.tmp 79) rfl w6.heap.size _ [] rfl (World.ownsInts_nil _ _ _ _) a rn c R rfl HB6.out (by simp; omega) (Nat.le_refl _) ?_)
      intro v7 w7 ho7 hg7 _
      have C7 := hide (below_app (World.ownsInts_nil w6 w6.heap.size 5 .u8) hg7 (Nat.le_refl _))
      have O7 := hide ho7
      have hs7 := C7.out.size
      have HBB7 := hide (HBB6.out.later C7.out (Nat.le_refl _))
      have HLL : Hid (R.length + fn ≤ 70368744177664) := by show _ ≤ _; rw [HRl.out]; omega
      clear hg7 ho7
      go_wp2_with (at_builtin; refine wpList_app rfl (.tmp 80) (.tmp 81) rfl w6.heap.size _ R rfl O7.out ba fn bc F rfl HBB7.out HLL.out hs7 ?_)
      intro v8 w8 ho8 hg8 _
      have C8 := C7.out.trans (below_app O7.out hg8 hs7)
      obtain ⟨a8, c8, rfl, hbs8⟩ := owns_bs ho8 (n := rn + fn) (by rw [List.length_append, HRl.out, HFN.out])
      have S8 := hide (same_any _ _ _ _ _ _ _ _ _ (P6.out.later C8 (Nat.le_refl _)) hbs8 true (by simp))
      have H8 := hide (H6.out.trans (C8.mono H6.out.size))
      have HB8 := hide (HB6.out.later C8 (Nat.le_refl _))
      have HBB8 := hide (HBB6.out.later C8 (Nat.le_refl _))
      have HLS8 := hide (HLS6.out.later C8 (Nat.le_refl _))
      clear ho8 hg8 C8 hbs8 HBB7 O7 C7 hs7 H6 HB6 HBB6 P6 HLS6
      go_wp2_with fail
      refine S8.out.mono ?_
      rintro e w8' ⟨rfl, rfl⟩
      clear S8
      have HA3 : Hid (Bs w8' ba fn bc (putsB (L.drop 0))) := by rw [List.drop_zero, ← HFL.out]; exact HBB8.out
      go_wp2
      go_loopw [14, 88] (fun a i wr => ∃ (k q' qc : Nat) (qa : Option Addr), k ≤ q ∧ i = .int .i64 k ∧ a = .slice qa q' qc ∧ q' ≤ 120 ∧ Hid (Bs wr qa q' qc (putsB (L.drop k))) ∧ Hid (Below w8'.heap.size w8' wr)) (fun _ i _ => q - (intOf i).toNat)
      case atStart => exact ⟨0, fn, bc, ba, by omega, rfl, rfl, hFB, HA3, Below.refl _ _⟩
      case round =>
        obtain ⟨k, q', qc, qa, hk, rfl, rfl, hq, HBs, HBel⟩ := hrel
        have hbs := HBs.out
        have hbel := HBel.out
        by_cases hlt : k < q
        · obtain ⟨m', hm⟩ : ∃ m, L[k]? = some m := ⟨_, List.getElem?_eq_getElem (by rw [HLn.out]; exact hlt)⟩
          have hmv := HLM.out m' (List.mem_of_getElem? hm)
          have HT := hide (putsB_may L (fun m hm => (HLM.out m hm).1) k m' hm)
          obtain ⟨A, B, C, D, F', V, hc⟩ := chg_all (putsB (L.drop k))
          have G := mutGet_any qa q' qc _ wr hbs (by omega) A B C D F' V hc
          rw [HT.out] at hc
          rw [getM_mutB m' hmv.1 hmv.2 _ A B C D F' V hc] at G
          obtain ⟨d, HD⟩ : ∃ d, Hid (d = (mutB m').length) := ⟨_, rfl⟩
          rw [← HD.out] at G
          have hd1 : 1 ≤ d := by rw [HD.out]; exact mutB_pos m'
          have hdq : d ≤ q' := by rw [← hbs.1, HT.out, List.length_append, HD.out]; omega
          have HG := hide G
          have hN := hbs.fromAt d (q' - d) hdq rfl
          have eN : (putsB (L.drop k)).drop d = putsB (L.drop (k + 1)) := by rw [HT.out, HD.out]; simp
          rw [eN] at hN
          have HN := hide hN
          have sN := fun W => run_fromA qa q' qc d (q' - d) (d : Int) rfl hdq rfl W
          have HMS := hide (fun (W : World) (h : Below wr.heap.size wr W) => (HLS8.out.later (hbel.trans (h.mono hbel.size)) (Nat.le_refl _)).2 (by omega))
          have HMM := hide hm
          have HBE := hide hbel
          have NEQ := fun W => neq_same m' W
          have HNW := hide (fun (W : World) => mt_cells (heap_alloc_new W (mtObj m')))
          have HAL := hide (fun (W : World) => below_alloc W (mtObj m') W.heap.size (Nat.le_refl _))
          clear hc G hN eN hm hbel hmv hbs HT HD HBs HBel
          obtain ⟨mk, mg, mn, mi, mf, mx⟩ := m'
          unfold mV at HG NEQ
          unfold mtObj at HNW HAL
          simp only at *
          go_wp2_with fail
          refine HG.out.mono ?_
          rintro e w5 ⟨rfl, hb5⟩
          have hb6 := hb5.trans ((HAL.out w5).mono hb5.size)
          obtain ⟨b, o, rfl, hcell⟩ := HMS.out _ hb6
          obtain ⟨z0, z1, z2, z3, z4, z5⟩ := hcell k _ HMM.out
          obtain ⟨y0, y1, y2, y3, y4, y5⟩ := HNW.out w5
          simp only at z0 z1 z2 z3 z4 z5
          have HB6 := hide (HBE.out.trans (hb6.mono HBE.out.size))
          have HN6 := hide (HN.out.later hb6 (Nat.le_refl _))
          clear hb5 hb6 hcell HG HMS HNW HAL HBE HN
          go_wp2
          generalize w5.alloc (.cells #[.int .i64 mk, .int .i64 mg, .int .i64 mn, .int .i64 mi, .int .i64 mf, .int .i64 mx] 40 (0, 0)) = W6 at *
          have g1 : decide ((d : Int) < 1) = false := by simp; omega
          have g2 : decide ((q' : Int) < (d : Int)) = false := by simp; omega
          go_quiet (fail)
          go_wp2
          go_roundw
          case rel => exact ⟨k + 1, q' - d, qc - d, cutA qa qc d, by omega, by go_num, rfl, by omega, hide (HN6.out.later (below_drewN (Below.refl W6.heap.size W6) nq) (Nat.le_refl _)), hide (below_drewN HB6.out nq)⟩
          case measure => simp [intOf]; omega
        · obtain rfl : q = k := by omega
          have hq0 : q' = 0 := by
            rw [← hbs.1, List.drop_of_length_le (by rw [HLn.out]; exact Nat.le_refl _)]; rfl
          subst hq0
          have H9 := hide (H8.out.trans (hbel.mono H8.out.size))
          have HB9 := hide (HB8.out.later hbel (Nat.le_refl _))
          have HBB9 := hide (HBB8.out.later hbel (Nat.le_refl _))
          obtain ⟨wA, rfl⟩ : ∃ V, V = wr := ⟨wr, rfl⟩
          clear hbs hbel HBs HBel H8 HB8 HBB8 HLS8 HA3 HLM HLn
          have hal := below_alloc wA (.cells #[.slice a rn c] 23) wA.heap.size (Nat.le_refl _)
          have HO3 := hide (OwnP.lit1 wA (a, rn, c))
          have HS3 := hide ((Bss.nil (wA.alloc (.cells #[.slice a rn c] 23))).snoc (HB9.out.later hal (Nat.le_refl _)))
          have HAL := hide (H9.out.trans (hal.mono H9.out.size))
          have HBBL := hide (HBB9.out.later hal (Nat.le_refl _))
          have HALL := hide hal
          clear hal
          by_cases hfp : 0 < fn
          · go_wp2_with (at_builtin; refine wpList_app rfl (.const (.slice none 0 0)) (.tmp 126) rfl (wA.heap.size + 1) _ [] rfl (World.ownsInts_nil _ _ _ _) ba fn bc F rfl HBBL.out (by simp; omega) (by simp) ?_)
            intro vC wC hoC hgC _
            have C1 := below_app (World.ownsInts_nil (wA.alloc (.cells #[.slice a rn c] 23)) (wA.heap.size + 1) 5 .u8) hgC (by simp)
            obtain ⟨gC, cC, rfl, hgCw, _⟩ := owns_shape hoC (by rw [HFN.out]; exact hfp)
            obtain ⟨r, i, hr, hr1, hr2, hi, hik⟩ := place at' fn hfp
            have hcr := range_of HBBL.out.2.2.2.2.2 i
            obtain ⟨y, hy, hy0, hy1, _⟩ := xor_u8 (F[i]?.getD 0) x hcr hx
            obtain ⟨d0, d1, d3, d4⟩ := setAt (i := i) (y := y) hoC (by rw [HFN.out]; exact hik) ⟨hy0, hy1⟩
            have hb4 := C1.trans (grown_below d4 hgCw (by have := C1.size; simpa using this))
            obtain ⟨a4, c4, e4, hbs4⟩ := owns_bs d3 (n := fn) (by simp [HFN.out])
            rw [HFN.out] at e4 ⊢
            obtain ⟨rfl, rfl⟩ : some ⟨gC, 0, none⟩ = a4 ∧ cC = c4 := by simpa using e4
            have HO4 := hide (HO3.out.later (hb4.mono (by simp)))
            have HC4 := hide hbs4
            have HB04 := hide (HALL.out.trans (hb4.mono (by omega)))
            clear C1 hgC hoC hcr d3 d4 hb4 e4 hbs4 HO3 HALL HBBL HS3 HAL
            go_upto_region 32 with fail
            generalize wC.setCell ⟨gC, i, none⟩ (.int .u8 y) = W4 at *
            clear d0 d1 hy
            have s2 := fun W => run_uptoA ba fn bc i (i : Int) rfl (by omega) W
            have hs4 := HB04.out.size
            go_wp2_with (at_builtin; refine wpList_appPP rfl (.tmp 144) (.tmp 158) rfl wA.heap.size _ [(a, rn, c)] rfl (HO4.out.later (below_alloc _ _ _ (Nat.le_refl _))) W4.heap.size (some ⟨gC, 0, none⟩, fn, cC) (ba, i, bc) rfl (by simp [sv]) (by simp [sv]) (by simp) (by simp; omega) ?_)
            intro v5 W5 ho5 hg5
            have hal4 := below_alloc W4 (.cells #[.slice (some ⟨gC, 0, none⟩) fn cC, .slice ba i bc] 23) W4.heap.size (Nat.le_refl _)
            have hb5 : Below wA.heap.size wA W5 := (HB04.out.trans (hal4.mono hs4)).grown hg5 (by simp; omega) (fun g hg => by simp [Value.ownBlock] at hg; omega)
            have hC5 := (HC4.out.later hal4 (Nat.le_refl _)).but hg5 (fun ad e => by cases e; simp [Value.ownBlock]; omega)
            have hS5 := (((Bss.nil W5).snoc (HB9.out.later hb5 (Nat.le_refl _))).snoc hC5).snoc ((HBB9.out.take i (by omega)).later hb5 (Nat.le_refl _))
            obtain ⟨la', lc', rfl, hLP⟩ := ho5.ps hS5
            have HLP := hide hLP
            have HW := hide (H9.out.trans (hb5.mono H9.out.size))
            obtain ⟨LS, HLS⟩ : ∃ LS, Hid (LS = [R, F.set i y, F.take i]) := ⟨_, rfl⟩
            have HLEN : Hid (∀ k, (LS.getD k []).length ≤ 1000) := by
              rw [HLS.out]
              intro k
              have e1 := HFN.out
              have e2 := HRl.out
              match k with
              | 0 => simp; omega
              | 1 => simp; omega
              | 2 => simp; omega
              | k + 3 => simp
            have HLP' : Hid (Ps W5 la' 3 LS) := by rw [HLS.out]; exact HLP.out
            clear HLP hLP hS5 hC5 hb5 hal4 ho5 hg5 HBB9 HB9 HO4 HC4 HB04 s2 hr hr1 hr2 hi hik HLS H9 hs4
            have HLP := HLP'
            clear HLP'
            go_wp2
            go_loopg [162] 3 (fun g i wr => ∃ k : Nat, k ≤ 3 ∧ g = 3 - k ∧ i = .int .i64 k ∧ Below W5.heap.size W5 wr)
            case atStart => exact ⟨0, by omega, rfl, rfl, Below.refl _ _⟩
            case round =>
              obtain ⟨k, hk, rfl, rfl, hbel⟩ := hrel
              by_cases hlt : k < 3
              · obtain ⟨lb, lo, rfl, hcell⟩ := (HLP.out.later hbel).2 (by omega)
                obtain ⟨ca, cn, cc, hck, hbs⟩ := hcell k hlt
                have hcn : cn ≤ 1000 := by have := HLEN.out k; rw [hbs.1] at this; exact this
                generalize LS.getD k [] = l at *
                obtain ⟨A, B, C, D, F, V, hc⟩ := chg_all l
                have HBS := hide hbs
                have HBE := hide hbel
                have HC := hide hc
                have HGe := hide (mutGet_any ca cn cc l wr hbs (by omega) A B C D F V hc)
                have HRe := hide (fun W h => refGetMut_any ca cn cc l W h (by omega) A B C D F V HC.out)
                clear hcell hbs hbel hc
                generalize getM A B C D F V = G at *
                obtain ⟨M, gn, ge⟩ := G
                have HAL := hide (fun W => below_alloc W (mtObj M) W.heap.size (Nat.le_refl _))
                have HNW := hide (fun W => heap_alloc_new W (mtObj M))
                have NEQ := fun W => neq_same M W
                obtain ⟨gk, gg, gN, gi, gf, gv⟩ := M
                unfold mV at *
                unfold mtObj at HAL HNW
                simp only at *
                go_wp2_with fail
                refine HGe.out.mono ?_
                rintro e x1 ⟨rfl, hx1⟩
                have hx2 := hx1.trans ((HAL.out x1).mono hx1.size)
                have HX2 := hide hx2
                have HN1 := hide (HNW.out x1)
                have HRe2 := hide (HRe.out _ (HBS.out.later hx2 (Nat.le_refl _)))
                clear hx1 hx2 HGe hck HRe
                go_wp2_with fail
                refine HRe2.out.mono ?_
                rintro e x3 ⟨rfl, hx3⟩
                have hx4 := hx3.trans ((HAL.out x3).mono hx3.size)
                have HB4 := hide (HBE.out.trans ((HX2.out.trans (hx4.mono HX2.out.size)).mono HBE.out.size))
                obtain ⟨p0, p1, p2, p3, p4, p5⟩ := mt_cells (m := ⟨gk, gg, gN, gi, gf, gv⟩) ((hx4.block _ (lt_of_heap HN1.out)).trans HN1.out)
                obtain ⟨q0, q1, q2, q3, q4, q5⟩ := mt_cells (m := ⟨gk, gg, gN, gi, gf, gv⟩) (HNW.out x3)
                simp only at p0 p1 p2 p3 p4 p5 q0 q1 q2 q3 q4 q5
                clear hx3 hx4 HRe2 HN1 HNW HAL HX2
                go_wp2
                go_roundg (3 - (k + 1))
                case measure => omega
                case rel => exact ⟨k + 1, by omega, rfl, by go_num, HB4.out⟩
              · have HFin := hide (HW.out.trans (hbel.mono HW.out.size))
                clear hbel
                go_wp2
                go_ret
                exact ⟨rfl, HFin.out⟩
          · obtain ⟨la', lc', e, hLP⟩ := HO3.out.ps HS3.out
            obtain ⟨rfl, rfl⟩ : some ⟨wA.heap.size, 0, none⟩ = la' ∧ 1 = lc' := by simpa using e
            have HLP : Hid (Ps (wA.alloc (.cells #[.slice a rn c] 23)) (some ⟨wA.heap.size, 0, none⟩) 1 [R]) := hLP
            have HW := HAL
            obtain ⟨LS, HLS⟩ : ∃ LS, Hid (LS = [R]) := ⟨_, rfl⟩
            have HLEN : Hid (∀ k, (LS.getD k []).length ≤ 1000) := by
              rw [HLS.out]
              intro k
              have e2 := HRl.out
              match k with
              | 0 => simp; omega
              | k + 1 => simp
            rw [← HLS.out] at HLP
            clear hLP HO3 HS3 HBBL HALL e HAL HBB9 HB9 HLS H9
            go_upto_region 33 with fail
            generalize wA.alloc (.cells #[.slice a rn c] 23) = W5 at *
            generalize (some ⟨wA.heap.size, 0, none⟩ : Option Addr) = la' at *
            go_wp2
            go_loopg [162] 1 (fun g i wr => ∃ k : Nat, k ≤ 1 ∧ g = 1 - k ∧ i = .int .i64 k ∧ Below W5.heap.size W5 wr)
            case atStart => exact ⟨0, by omega, rfl, rfl, Below.refl _ _⟩
            case round =>
              obtain ⟨k, hk, rfl, rfl, hbel⟩ := hrel
              by_cases hlt : k < 1
              · obtain ⟨lb, lo, rfl, hcell⟩ := (HLP.out.later hbel).2 (by omega)
                obtain ⟨ca, cn, cc, hck, hbs⟩ := hcell k hlt
                have hcn : cn ≤ 1000 := by have := HLEN.out k; rw [hbs.1] at this; exact this
                generalize LS.getD k [] = l at *
                obtain ⟨A, B, C, D, F, V, hc⟩ := chg_all l
                have HBS := hide hbs
                have HBE := hide hbel
                have HC := hide hc
                have HGe := hide (mutGet_any ca cn cc l wr hbs (by omega) A B C D F V hc)
                have HRe := hide (fun W h => refGetMut_any ca cn cc l W h (by omega) A B C D F V HC.out)
                clear hcell hbs hbel hc
                generalize getM A B C D F V = G at *
                obtain ⟨M, gn, ge⟩ := G
                have HAL := hide (fun W => below_alloc W (mtObj M) W.heap.size (Nat.le_refl _))
                have HNW := hide (fun W => heap_alloc_new W (mtObj M))
                have NEQ := fun W => neq_same M W
                obtain ⟨gk, gg, gN, gi, gf, gv⟩ := M
                unfold mV at *
                unfold mtObj at HAL HNW
                simp only at *
                go_wp2_with fail
                refine HGe.out.mono ?_
                rintro e x1 ⟨rfl, hx1⟩
                have hx2 := hx1.trans ((HAL.out x1).mono hx1.size)
                have HX2 := hide hx2
                have HN1 := hide (HNW.out x1)
                have HRe2 := hide (HRe.out _ (HBS.out.later hx2 (Nat.le_refl _)))
                clear hx1 hx2 HGe hck HRe
                go_wp2_with fail
                refine HRe2.out.mono ?_
                rintro e x3 ⟨rfl, hx3⟩
                have hx4 := hx3.trans ((HAL.out x3).mono hx3.size)
                have HB4 := hide (HBE.out.trans ((HX2.out.trans (hx4.mono HX2.out.size)).mono HBE.out.size))
                obtain ⟨p0, p1, p2, p3, p4, p5⟩ := mt_cells (m := ⟨gk, gg, gN, gi, gf, gv⟩) ((hx4.block _ (lt_of_heap HN1.out)).trans HN1.out)
                obtain ⟨q0, q1, q2, q3, q4, q5⟩ := mt_cells (m := ⟨gk, gg, gN, gi, gf, gv⟩) (HNW.out x3)
                simp only at p0 p1 p2 p3 p4 p5 q0 q1 q2 q3 q4 q5
                clear hx3 hx4 HRe2 HN1 HNW HAL HX2
                go_wp2
                go_roundg (1 - (k + 1))
                case measure => omega
                case rel => exact ⟨k + 1, by omega, rfl, by go_num, HB4.out⟩
              · have HFin := hide (HW.out.trans (hbel.mono HW.out.size))
                clear hbel
                go_wp2
                go_ret
                exact ⟨rfl, HFin.out⟩

theorem own : ownKnob Tryz.prog.godebug = none := by kernel_rfl
theorem laidOut : laidOutB Tryz.prog = true := by kernel_rfl

set_option maxRecDepth 100000 in
theorem lifted (os : Os) (started : os.Started) (H : Type) (enc : TypeId × Value → H) :
    ReturnsInHanded {} Tryz.checked os 4 .any (Rows.mutAllSpec.pre6 enc Tryz.prog Tryz.f4 Rows.mutAllRow.domain false) (Rows.mutAllSpec.post enc Tryz.prog Tryz.f4 false true false false) := by
  refine returnsInHanded_of_change (C := Tryz.checked) own started (by kernel_rfl) Tryz.func4
    (ChangeSpec.witness6 (enc := enc) (C := Tryz.checked) false ⟨#[], #[.slice none 0 0, .int .i64 0, .int .u8 0, .slice none 0 0], []⟩ 8 (by kernel_rfl) (by kernel_rfl) (by kernel_rfl) (by kernel_rfl)) ?_
  intro W base args ds gs before hval0 hW hcnd _
  have hval : ∀ (j : Nat) t v, Tryz.f4.params[j]? = some t → args[j]? = some v → Value.okWide Tryz.prog W .any base t v := hval0
  have hW' := hW
  obtain ⟨p, q, hA0, hV, rfl, hfz, hnd⟩ := hW
  have hA : DataW.TrodAll enc Tryz.prog W 0 (fun _ => true) true Tryz.f4.params.toList args.toList ds p := hA0
  rw [Tryz.params4] at hA hval
  obtain ⟨v0, vs0, d0, ds0, p0, q0, hargs, rfl, rfl, h0, r0⟩ := trodAll_cons hA
  obtain ⟨v1, vs1, d1, ds1, p1, q1, rfl, rfl, rfl, h1, r1⟩ := trodAll_cons r0
  obtain ⟨v2, vs2, d2, ds2, p2, q2, rfl, rfl, rfl, h2, r2⟩ := trodAll_cons r1
  obtain ⟨v3, vs3, d3, ds3, p3, q3, rfl, rfl, rfl, h3, r3⟩ := trodAll_cons r2
  obtain ⟨rfl, rfl, rfl⟩ := trodAll_nil r3
  obtain rfl : args = #[v0, v1, v2, v3] := by cases args; simp_all
  obtain ⟨rfl, rfl⟩ := trodVars_none hV
  obtain ⟨a0, n0, c0, rfl⟩ := okWide_slice Tryz.underlying35 (hval 0 35 v0 rfl rfl)
  have k0 := h0
  have lt0 : ∀ x ∈ p0, x.block < W.heap.size := by obtain ⟨m, hm⟩ := k0; exact DataW.trod_lt m _ _ _ hm
  obtain ⟨z0, w0⟩ : ∃ ms, Ms W a0 n0 ms ∧ (∀ m ∈ ms, wfM m) ∧ n0 ≤ c0 ∧ c0 ≤ 9223372036854775807 := by
    obtain ⟨fuel, hf⟩ := h0
    rcases open_muts hf with hcs | ⟨x, l, c, ms, hcs, hl, hm, hM, hw⟩
    · simp [Value.cells] at hcs; obtain ⟨rfl, rfl, rfl⟩ := hcs; exact ⟨[], ⟨rfl, fun h => absurd h (Nat.lt_irrefl 0)⟩, by simp, Nat.le_refl _, by omega⟩
    · simp [Value.cells] at hcs; obtain ⟨rfl, rfl, rfl⟩ := hcs; exact ⟨ms, hM, hw, hl, by simpa [maxLen] using hm⟩
  obtain ⟨a1, rfl, rfl, rfl, w1⟩ := open_int Tryz.underlying3 (hval 1 3 v1 rfl rfl) h1
  obtain ⟨a2, rfl, rfl, rfl, w2⟩ := open_int Tryz.underlying5 (hval 2 5 v2 rfl rfl) h2
  obtain ⟨a3, n3, c3, rfl⟩ := okWide_slice Tryz.underlying23 (hval 3 23 v3 rfl rfl)
  have k3 := h3
  have lt3 : ∀ x ∈ p3, x.block < W.heap.size := by obtain ⟨m, hm⟩ := k3; exact DataW.trod_lt m _ _ _ hm
  obtain ⟨z3, w3⟩ : ∃ zs, Row .u8 W a3 n3 c3 zs := by
    obtain ⟨fuel, hf⟩ := h3
    rcases open_ints Tryz.underlying23 Tryz.underlying5 (by kernel_rfl) hf with ⟨hcs, _⟩ | ⟨x, l, c, zs, hcs, _, hl, hm, hz, _, hcell, hwz⟩
    · simp [Value.cells] at hcs; obtain ⟨rfl, rfl, rfl⟩ := hcs; exact ⟨[], row_none _ _⟩
    · simp [Value.cells] at hcs; obtain ⟨rfl, rfl, rfl⟩ := hcs; exact ⟨_, row_some hl hm (by simpa using hz) hcell hwz⟩
  clear hA0 hval0
  refine (walk a0 n0 c0 z0 a1 a2 a3 n3 c3 z3 W w0.1 w0.2.1 w0.2.2.1 w0.2.2.2 w1 w2 w3).mono fun e W' ⟨he, bel⟩ => ?_
  subst he
  exact ⟨_, rfl, _, _, _, [], _, [], hW', trodAll_mk1 (shut_bool Tryz.underlying4 _), (trodAll_cons_mk (Below.trod laidOut (by kernel_rfl) (of_decide_eq_true (by kernel_rfl)) k0 bel lt0) (trodAll_cons_mk (shut_int Tryz.underlying3 w1) (trodAll_cons_mk (shut_int Tryz.underlying5 w2) (trodAll_cons_mk (Below.trod laidOut (by kernel_rfl) (of_decide_eq_true (by kernel_rfl)) k3 bel lt3) trodAll_mk0)))), rfl, bel.frame _, fun h => by cases h⟩

theorem over : Rows.mutAllRow.holds Tryz.pinned (OpenSpec.ofChange Rows.mutAllSpec) :=
  OpenClaim.holds_of_wide 4 Tryz.f4 rfl rfl rfl rfl rfl rfl rfl ⟨rfl, rfl, rfl, rfl, rfl⟩ rfl rfl rfl rfl rfl (by kernel_rfl) Tryz.func4 (by kernel_rfl)
    (of_decide_eq_true (by kernel_rfl)) (by unfold Func.isWrapper; first | (rw [if_pos (by decide +kernel)]; kernel_rfl) | (rw [if_neg (by decide +kernel)]; exact ⟨rfl, rfl⟩))
    (fun os started H enc _ => lifted os started H enc)

theorem proved : Rows.MutAllSaid := over
#print axioms proved
end Go.Proofs.YtgpfpmocdmeldaaGreat.mutAll
