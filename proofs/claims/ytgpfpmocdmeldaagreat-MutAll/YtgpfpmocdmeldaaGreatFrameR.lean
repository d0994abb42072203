/- The document's own frames: contracts of its Frame, GetFrame and Frames. -/
import Derived.Test.YtgpfpmocdmeldaaGreatFrameT
import Derived.Test.YtgpfpmocdmeldaaGreatLawD
import Derived.Test.YtgpfpmocdmeldaaGreatBegunA
namespace Go.Proofs.YtgpfpmocdmeldaaGreat
open Go.RowKit

theorem sum4_eq (s : Nat) (h : s < 4294967296) : sum4 s = [(s : Int) % 256, (s : Int) / 256 % 256, (s : Int) / 65536 % 256, (s : Int) / 16777216] := by
  have e : (s : Int) / 16777216 % 256 = (s : Int) / 16777216 := by omega
  simp [sum4, List.range, List.range.loop, e]

set_option maxRecDepth 100000 in
set_option maxHeartbeats 400000 in
theorem refFrame_any (a : Option Addr) (n cap : Nat) (t : List Int) (w : World) (h : Bs w a n cap t) (hn : n ≤ 1000000) :
    Calls Tryz.prog 8 #[.slice a n cap] w fun e w' => ∃ v', e = .returned v' ∧ w'.ownsInts w.heap.size 5 .u8 v' (frameB t) ∧ Below w.heap.size w w' := by
  have HT := hide h.1
  have HB := hide h
  have hd := (M.numB_len 9 n).2
  clear h
  go_enter Tryz.func8, Tryz.ntmps8
  go_wp2_with fail
  refine (refNum_any n _ (by omega)).mono ?_
  rintro e w1 ⟨v1, rfl, ho1, hb1⟩
  have HB1 := hide (HB.out.later hb1 (Nat.le_refl _))
  have HO1 := hide ho1
  have H1 := hide hb1
  have hs1 := hb1.size
  clear ho1 hb1
  go_wp2_with fail
  refine (refSum_any _ _ _ _ _ HB1.out).mono ?_
  rintro e w2 ⟨rfl, rfl⟩
  obtain ⟨S, HS⟩ : ∃ S, Hid (S = sumOf t) := ⟨_, rfl⟩
  have hS : S < 4294967296 := by rw [HS.out]; exact sumOf_lt t
  rw [← HS.out]
  have H4 := hide (sum4_eq S hS)
  have HL4 := hide (Bs.lit w2 [(S : Int) % 256, (S : Int) / 256 % 256, (S : Int) / 65536 % 256, (S : Int) / 16777216] (0, 0) (by
    intro x hx
    simp only [List.mem_cons, List.not_mem_nil, or_false] at hx
    omega) (by simp))
  have HLEN : Hid ((M.numB 9 n).length + 4 ≤ 70368744177664) := by show _ ≤ _; omega
  have HA := hide (below_alloc w2 (.cells #[.int .u8 ((S : Int) % 256), .int .u8 ((S : Int) / 256 % 256), .int .u8 ((S : Int) / 65536 % 256), .int .u8 ((S : Int) / 16777216)] 5) w.heap.size hs1)
  go_wp2_with (at_builtin; refine wpList_app rfl (.tmp 11) (.tmp 26) rfl w.heap.size _ (M.numB 9 n) rfl (owns_alloc HO1.out _) (some ⟨w2.heap.size, 0, none⟩) 4 4 [(S : Int) % 256, (S : Int) / 256 % 256, (S : Int) / 65536 % 256, (S : Int) / 16777216] rfl HL4.out HLEN.out (by simp; omega) ?_)
  intro v3 w3 ho3 hg3 _
  have hb3 := below_app (owns_alloc HO1.out _) hg3 (by simp; omega)
  have H3 := hide ((H1.out.trans HA.out).trans hb3)
  have HB3 := hide (HB.out.later H3.out (Nat.le_refl _))
  rw [← H4.out] at ho3
  have HO3 := hide ho3
  have hs3 := H3.out.size
  have HLEN3 : Hid ((M.numB 9 n ++ sum4 S).length + n ≤ 70368744177664) := by show _ ≤ _; rw [List.length_append, sum4_len]; omega
  clear hb3 hg3 ho3 HL4 HA HO1 HB1 H1 H4
  go_wp2_with (at_builtin; refine wpList_app rfl (.tmp 28) (.tmp 29) rfl w.heap.size _ (M.numB 9 n ++ sum4 S) rfl HO3.out a n cap t rfl HB3.out HLEN3.out hs3 ?_)
  intro v4 w4 ho4 hg4 _
  have hb4 := H3.out.trans (below_app HO3.out hg4 hs3)
  have e : frameB t = M.numB 9 n ++ (sum4 S ++ t) := by rw [frameB, HT.out, ← HS.out]
  rw [← e] at ho4
  clear hg4
  go_wp2
  go_ret
  exact ⟨_, rfl, ho4, hb4⟩

theorem readL_four (p q r s : Int) : readL [p, q, r, s] = p.toNat + 256 * (q.toNat + 256 * (r.toNat + 256 * (s.toNat + 256 * 0))) := by
  simp only [readL]

theorem take_four (l : List Int) (i n : Nat) (hl : l.length = n) (h : i + 4 ≤ n) : (l.drop i).take 4 = [l[i]?.getD 0, l[i + 1]?.getD 0, l[i + 2]?.getD 0, l[i + 3]?.getD 0] := by
  subst hl
  refine List.ext_getElem (by simp; omega) fun j h1 h2 => ?_
  simp only [List.getElem_take, List.getElem_drop]
  simp only [List.length_cons, List.length_nil] at h2
  match j, h2 with
  | 0, _ => simp [show i < l.length by omega]
  | 1, _ => simp [show i + 1 < l.length by omega]
  | 2, _ => simp [show i + 2 < l.length by omega]
  | 3, _ => simp [show i + 3 < l.length by omega]

set_option maxRecDepth 100000 in
set_option maxHeartbeats 800000 in
theorem refGetFrame_body (b o n cap L took : Nat) (l : List Int) (w : World) (h : Bs w (some ⟨b, o, none⟩) n cap l) (hg : M.getL 0 0 l = (L, took, 0)) (hL4 : L ≤ 4096) (ht : 1 ≤ took) (ht10 : took ≤ 10) (hfit : took + 4 + L ≤ n) :
    Calls Tryz.prog 14 #[.slice (some ⟨b, o, none⟩) n cap] w fun e w' => ∃ a' k c, e = .returned (.tuple #[.slice a' k c, .int .i64 (getF l).2.1, .int .i64 (getF l).2.2]) ∧ Bs w' a' k c (getF l).1 ∧ (∀ ad, a' = some ad → w.heap.size ≤ ad.block ∧ ad.block < w'.heap.size) ∧ Below w.heap.size w w' := by
  have hn := h.2.1
  have hcap := h.2.2.1
  have H1 := refGet_any (some ⟨b, o, none⟩) n cap l w h
  have hT : getF l = if readL ((l.drop took).take 4) ≠ sumOf ((l.drop (took + 4)).take L) then ([], 0, 7) else ((l.drop (took + 4)).take L, took + 4 + L, 0) := by
    unfold getF
    rw [hg]
    simp only
    rw [if_neg (by simp), if_neg (by omega), if_neg (by rw [h.1]; omega)]
  rw [take_four l took n h.1 (by omega), readL_four] at hT
  rw [hg] at H1
  have HG := hide H1
  have r0 := range_of h.2.2.2.2.2 took
  have r1 := range_of h.2.2.2.2.2 (took + 1)
  have r2 := range_of h.2.2.2.2.2 (took + 2)
  have r3 := range_of h.2.2.2.2.2 (took + 3)
  have z0 := h.at took (by omega)
  have z1 := h.at (took + 1) (by omega)
  have z2 := h.at (took + 2) (by omega)
  have z3 := h.at (took + 3) (by omega)
  have HB2 := hide (h.cutAt (took + 4) (took + 4 + L) L (by omega) (by omega) (by omega))
  obtain ⟨X2, HX2⟩ : ∃ X, Hid (X = (l.drop (took + 4)).take L) := ⟨_, rfl⟩
  rw [← HX2.out] at HB2 hT
  generalize l[took]?.getD 0 = y0 at *
  generalize l[took + 1]?.getD 0 = y1 at *
  generalize l[took + 2]?.getD 0 = y2 at *
  generalize l[took + 3]?.getD 0 = y3 at *
  have s2 := fun W => run_cutA (some ⟨b, o, none⟩) n cap (took + 4) (took + 4 + L) L ((took : Int) + 4) ((took : Int) + 4 + L) (by omega) (by omega) (by omega) (by omega) (by omega) W
  obtain ⟨T, HT⟩ : ∃ T, Hid (T = getF l) := ⟨_, rfl⟩
  rw [← HT.out] at hT ⊢
  clear hg H1 h
  generalize cutA (some ⟨b, o, none⟩) cap (took + 4) = A2 at *
  have e3 : ((took : Int) + 3).toNat = took + 3 := by omega
  have e2 : ((took : Int) + 2).toNat = took + 2 := by omega
  have e1 : ((took : Int) + 1).toNat = took + 1 := by omega
  have b3 : (took : Int) + 3 < n := by omega
  have b2 : (took : Int) + 2 < n := by omega
  have b1 : (took : Int) + 1 < n := by omega
  have b0 : (took : Int) < n := by omega
  have f1 : (4 : Int) + L ≤ (n : Int) - took := by omega
  have hRn : ((y0.toNat + 256 * (y1.toNat + 256 * (y2.toNat + 256 * (y3.toNat + 256 * 0))) : Nat) : Int) = ((y3 * 256 + y2) * 256 + y1) * 256 + y0 := by omega
  by_cases hs : y0.toNat + 256 * (y1.toNat + 256 * (y2.toNat + 256 * (y3.toNat + 256 * 0))) = sumOf X2
  · rw [if_neg (by simpa using hs)] at hT
    have HT2 := hide hT
    have hne : (((sumOf X2 : Nat) : Int) != ((y3 * 256 + y2) * 256 + y1) * 256 + y0) = false := by rw [← hRn, hs]; simp
    have HXL := hide HB2.out.1
    clear hT hs hRn
    go_enter Tryz.func14, Tryz.ntmps14
    go_wp2_with fail
    refine HG.out.mono ?_
    rintro e w1 ⟨rfl, rfl⟩
    go_wp2
    refine wp_loop_rounds 5 ?_
    rw [rounds_succ]
    go_wp2
    rw [rounds_succ]
    go_wp2
    rw [rounds_succ]
    go_wp2
    rw [rounds_succ]
    go_wp2
    rw [rounds_succ]
    go_wp2_with fail
    refine (refSum_any _ _ _ _ _ HB2.out).mono ?_
    rintro e w2 ⟨rfl, rfl⟩
    clear z0 z1 z2 z3 e1 e2 e3 b0 b1 b2 b3 HG
    go_wp2_with (at_builtin; refine wpList_app rfl (.const (.slice none 0 0)) (.tmp 57) rfl w2.heap.size _ [] rfl (World.ownsInts_nil _ _ _ _) A2 L (cap - (took + 4)) X2 rfl HB2.out (by simp; omega) (Nat.le_refl _) ?_)
    intro v3 w3 ho3 hg3 _
    have hb3 := below_app (World.ownsInts_nil w2 w2.heap.size 5 .u8) hg3 (Nat.le_refl _)
    obtain ⟨a4, c4, rfl, hbs4⟩ := owns_bs ho3 HXL.out
    have hlt := ho3.1.lt
    clear hg3 ho3
    go_wp2
    go_ret3
    rw [HT2.out]
    exact ⟨_, _, _, ret_P (by simp) rfl, hbs4, (fun ad e => by subst e; exact hlt _ rfl), hb3⟩
  · rw [if_pos hs] at hT
    have HT2 := hide hT
    have hne : (((sumOf X2 : Nat) : Int) != ((y3 * 256 + y2) * 256 + y1) * 256 + y0) = true := by rw [← hRn]; simp; omega
    clear hT hs hRn
    go_enter Tryz.func14, Tryz.ntmps14
    go_wp2_with fail
    refine HG.out.mono ?_
    rintro e w1 ⟨rfl, rfl⟩
    go_wp2
    refine wp_loop_rounds 5 ?_
    rw [rounds_succ]
    go_wp2
    rw [rounds_succ]
    go_wp2
    rw [rounds_succ]
    go_wp2
    rw [rounds_succ]
    go_wp2
    rw [rounds_succ]
    go_wp2_with fail
    refine (refSum_any _ _ _ _ _ HB2.out).mono ?_
    rintro e w2 ⟨rfl, rfl⟩
    go_wp2
    go_ret3
    rw [HT2.out]
    exact ⟨_, _, _, rfl, Bs.nil _, (fun ad e => by cases e), Below.refl _ _⟩

set_option maxRecDepth 100000 in
set_option maxHeartbeats 400000 in
theorem refGetFrame_new (a : Option Addr) (n cap : Nat) (l : List Int) (w : World) (h : Bs w a n cap l) :
    Calls Tryz.prog 14 #[.slice a n cap] w fun e w' => ∃ a' k c, e = .returned (.tuple #[.slice a' k c, .int .i64 (getF l).2.1, .int .i64 (getF l).2.2]) ∧ Bs w' a' k c (getF l).1 ∧ (∀ ad, a' = some ad → w.heap.size ≤ ad.block ∧ ad.block < w'.heap.size) ∧ Below w.heap.size w w' := by
  have hf := M.getL_facts l 0 0 (by omega) (by decide) h.2.2.2.2.2
  obtain ⟨L, took, e, hG⟩ : ∃ L took e, M.getL 0 0 l = (L, took, e) := ⟨_, _, _, rfl⟩
  rw [hG] at hf
  simp only [Nat.zero_add] at hf
  have hl := h.1
  have hcap := h.2.2.1
  have hnc := h.2.1
  by_cases he : e = 0
  · subst he
    have hf2 : 1 ≤ took ∧ took ≤ n ∧ took ≤ 10 := by
      rcases hf.2 with ⟨_, q1, q2, q3⟩ | ⟨q1, _, _⟩
      · exact ⟨q1, by omega, q3⟩
      · omega
    by_cases hL : L ≤ 4096
    · by_cases hfit : took + 4 + L ≤ n
      · obtain ⟨b, o, rfl, _⟩ := h.2.2.2.2.1 (by omega)
        exact refGetFrame_body b o n cap L took l w h hG hL hf2.1 hf2.2.2 hfit
      · have hT : getF l = ([], 0, 8) := by
          unfold getF
          rw [hG]
          simp only
          rw [if_neg (by simp), if_neg (by omega), if_pos (by omega)]
        have g1 := refGet_any a n cap l w h
        rw [hG] at g1
        have HG := hide g1
        rw [hT]
        have hfit2 : (n : Int) - took < 4 + L := by omega
        have ht1 := hf2.1
        have ht2 := hf2.2.1
        clear g1 hG hT hf hfit
        go_enter Tryz.func14, Tryz.ntmps14
        go_wp2_with fail
        refine HG.out.mono ?_
        rintro e w1 ⟨rfl, rfl⟩
        go_wp2
        go_ret3
        exact ⟨_, _, _, rfl, Bs.nil _, (fun ad e => by cases e), Below.refl _ _⟩
    · have hT : getF l = ([], 0, 10) := by
        unfold getF
        rw [hG]
        simp only
        rw [if_neg (by simp), if_pos (by omega)]
      have g1 := refGet_any a n cap l w h
      rw [hG] at g1
      have HG := hide g1
      rw [hT]
      have hL2 : (4096 : Int) < (L : Int) := by omega
      clear g1 hG hT hf hL
      go_enter Tryz.func14, Tryz.ntmps14
      go_wp2_with fail
      refine HG.out.mono ?_
      rintro e w1 ⟨rfl, rfl⟩
      go_wp2
      go_ret3
      exact ⟨_, _, _, rfl, Bs.nil _, (fun ad e => by cases e), Below.refl _ _⟩
  · have hT : getF l = ([], 0, e) := by
      unfold getF
      rw [hG]
      simp only
      rw [if_pos he]
    have g1 := refGet_any a n cap l w h
    rw [hG] at g1
    have HG := hide g1
    rw [hT]
    have hb : (e != 0) = true := by simpa using he
    clear g1 hG hT hf he
    go_enter Tryz.func14, Tryz.ntmps14
    go_wp2_with fail
    refine HG.out.mono ?_
    rintro e w1 ⟨rfl, rfl⟩
    go_wp2
    go_ret3
    exact ⟨_, _, _, rfl, Bs.nil _, (fun ad e => by cases e), Below.refl _ _⟩

set_option maxRecDepth 100000 in
set_option maxHeartbeats 800000 in
theorem refFrames_any (a : Option Addr) (n cap : Nat) (l : List Int) (w : World) (h : Bs w a n cap l) (hn : n ≤ 1000000000) :
    Calls Tryz.prog 12 #[.slice a n cap] w fun e w' => ∃ pa m pc, e = .returned (.tuple #[.slice pa m pc, .int .i64 (allF n l).2.1, .int .i64 (allF n l).2.2]) ∧ Ps w' pa m (allF n l).1 ∧ m ≤ n ∧ Below w.heap.size w w' := by
  have HB := hide h
  have HN := hide h.1
  have HR := hide h.2.2.2.2.2
  have HS := hide (AllSt.start w l n h.1)
  have hcap := h.2.2.1
  have hnc := h.2.1
  clear h
  go_enter Tryz.func12, Tryz.ntmps12
  go_wp2
  go_loopw [5, 6] (fun v i wr => ∃ at' : Nat, at' ≤ n ∧ i = .int .i64 at' ∧ Hid (AllSt w l n at' v wr)) (fun _ i _ => n - (intOf i).toNat)
  case atStart => exact ⟨0, by omega, rfl, HS⟩
  case round =>
    obtain ⟨at', hat, rfl, HT⟩ := hrel
    by_cases hlt : at' < n
    · have hbel := HT.out.bel
      have s1 := fun W => run_fromA a n cap at' (n - at') (at' : Int) rfl hat rfl W
      have HG := hide (refGetFrame_new _ _ _ _ wr ((HB.out.later hbel (Nat.le_refl _)).fromAt at' (n - at') hat rfl))
      have hfa := getF_facts (l.drop at') (fun x hx => HR.out x (List.mem_of_mem_drop hx))
      rw [List.length_drop, HN.out] at hfa
      by_cases he : (getF (l.drop at')).2.2 = 0
      · have htk : 5 ≤ (getF (l.drop at')).2.1 ∧ (getF (l.drop at')).2.1 ≤ n - at' := by
          rcases hfa with ⟨_, q1, q2⟩ | ⟨q, _, _⟩
          · exact ⟨q1, q2⟩
          · exact absurd he q
        rw [he] at HG
        obtain ⟨took, HK⟩ : ∃ k, Hid (k = (getF (l.drop at')).2.1) := ⟨_, rfl⟩
        rw [← HK.out] at HG htk
        obtain ⟨ps, ls, f, hown, hps, hbss, hap, hun, hf, hall⟩ := HT.out.own
        have HE := hide he
        have HO := hide hown
        have HBE := hide hbel
        have hpsn : ps.length ≤ 1000000000000 := by omega
        have HPS := hide hps; have HBSS := hide hbss; have HAP := hide hap; have HUN := hide hun; have HF := hide hf; have HAL := hide hall
        clear hfa he hown hbel hbss hap hun hf hall hps
        go_wp2_with fail
        refine HG.out.mono ?_
        rintro e w1 ⟨a1, k1, c1, rfl, hbs1, hnew1, hb1⟩
        have hsz : w.heap.size ≤ w1.heap.size := Nat.le_trans HBE.out.size hb1.size
        have HO1 := hide (HO.out.later hb1)
        have HB1 := hide hb1
        have HS1 := hide hbs1
        have HN1 := hide hnew1
        clear hb1 hbs1 hnew1 HG
        go_wp2_with (at_builtin; refine wpList_appP2 rfl (.tmp 27) (.tmp 29) rfl w.heap.size _ ps rfl (HO1.out.later (below_alloc _ _ _ (Nat.le_refl _))) w1.heap.size (a1, k1, c1) rfl (by simp [sv]) hpsn (by simp; omega) ?_)
        intro v2 w2 ho2 hg2 hv2
        have R := AllSt.step HN.out hlt HBE.out HPS.out HR.out HBSS.out HAP.out HUN.out HF.out HAL.out HO.out HE.out HS1.out HN1.out HB1.out ho2 hg2 hv2
        rw [← HK.out] at R
        have HRR := hide R
        clear ho2 hg2 hv2 R HPS HBSS HAP HUN HF HAL HS1 HN1 HB1 HO1
        go_wp2
        go_roundw
        case rel => exact ⟨at' + took, by omega, by go_num, HRR⟩
        case measure => simp [intOf]; omega
      · obtain ⟨pa, m, pc, rfl, hP, hm, q1, q2⟩ := HT.out.error HN.out hlt he
        have hb : ((getF (l.drop at')).2.2 != 0) = true := by simpa using he
        have HP := hide hP
        have HQ1 := hide q1
        have HQ2 := hide q2
        have HBE := hide hbel
        clear hfa he hP q1 q2 hbel
        go_wp2_with fail
        refine HG.out.mono ?_
        rintro e w1 ⟨a1, k1, c1, rfl, _, _, hb1⟩
        clear HG
        go_wp2
        go_ret3
        exact ⟨_, _, _, ret_P (by rw [HQ1.out]) (by rw [HQ2.out]), HP.out _ hb1, hm, HBE.out.trans (hb1.mono HBE.out.size)⟩
    · obtain ⟨pa, m, pc, rfl, hP, hm, q1, q2⟩ := HT.out.done HN.out hlt
      have HP := hide hP
      have HQ1 := hide q1
      have HQ2 := hide q2
      clear hP q1 q2
      go_wp2
      go_ret3
      exact ⟨_, _, _, ret_P (by rw [HQ1.out]) (by rw [HQ2.out]), HP.out, hm, HT.out.bel⟩
end Go.Proofs.YtgpfpmocdmeldaaGreat
