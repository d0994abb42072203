/- The walk of the statement ListAll. -/
import Derived.Test.YtkchfbigkecodaaGreatLstA
import Derived.Test.YtkchfbigkecodaaGreatBeg7
import Derived.Test.YtkchfbigkecodaaGreatLawA
import Derived.Deep.LoopGhost
import Derived.Deep.CutBlock
namespace Go.Proofs.YtkchfbigkecodaaGreat.listAll
open Go.ChangeShapes Go.WideShapes Go.ChangeAt Go.RowKit Go.MapKept Go.ChangeMaps

set_option maxRecDepth 100000 in
set_option maxHeartbeats 8000000 in
theorem walk (a0 : Option Addr) (n0 c0 : Nat) (d0 : List Kop) (w : World) (h0 : Kos w a0 n0 d0) (f0 : ∀ d ∈ d0, wfKo w d) (_l0 : n0 ≤ c0) (_m0 : c0 ≤ 9223372036854775807) :
    Calls Tryz.prog 4 #[.slice a0 n0 c0] w fun e w' => e = .returned (.bool true) ∧ Below w.heap.size w w' := by
  have hmm := @run_makeMap Tryz.prog
  have HK := hide h0
  have HF := hide f0
  clear h0 f0 _m0
  go_enter Tryz.func4, Tryz.ntmps4
  go_wp2_with fail
  refine (begun7_true _).mono ?_
  rintro e w1 ⟨rfl, hb1⟩
  go_wp2_with fail
  refine (listNew _).mono ?_
  rintro e w2 ⟨rfl, rfl⟩
  have hz : (w1.alloc (rmObj 92 none)).heap.size = w1.heap.size + 1 := by simp
  have HV0 : Hid (∃ E f N l c, N ≤ 0 ∧ LA w ((w1.alloc (rmObj 92 none)).alloc (.map #[] 0)) w1.heap.size (w1.heap.size + 1) E f f N l c) := by
    have hl := (Lh.new w w1 hb1).box (.map #[] 0)
    rw [hz] at hl
    have hm := Mp.new (E := k3E) (w1.alloc (rmObj 92 none))
    rw [hz] at hm
    exact ⟨_, _, 0, [], 0, Nat.le_refl _, hl, hm, Or.inr rfl, fun k hk => by have := hb1.size; rcases hk with e | e; exact e.elim; omega, fun x hx => by simp at hx, fun _ _ => rfl, fun _ => by simp⟩
  clear hb1
  go_wp2_with fail
  clear hz hmm
  generalize (w1.alloc (rmObj 92 none)).alloc (.map #[] 0) = W2 at *
  generalize w1.heap.size = g at *
  generalize g + 1 = r at *
  go_loopg [6] 60 (fun gm i wr => ∃ j : Nat, gm = 60 - j ∧ j ≤ n0 ∧ j ≤ 60 ∧ i = .int .i64 j ∧ Hid (∃ E f N l c, N ≤ j ∧ LA w wr g r E f f N l c))
  case atStart => exact ⟨0, rfl, by omega, by omega, rfl, HV0⟩
  case round =>
    clear HV0
    obtain ⟨j, rfl, hj, hj60, rfl, HV⟩ := hrel
    by_cases hin : j < n0 ∧ j < 60
    · obtain ⟨hlt, hlt60⟩ := hin
      obtain ⟨d, hd⟩ : ∃ d, d0[j]? = some d := ⟨_, List.getElem?_eq_getElem (by rw [HK.out.1]; exact hlt)⟩
      obtain ⟨E, f, N, l, c, hN, hV⟩ := HV.out
      obtain ⟨b, o, rfl, hc⟩ := (HK.out.later hV.h.b (Nat.le_refl _)).2 (by omega)
      have HIN : Hid (∀ W, Below w.heap.size w W → W.cell? ⟨b, o + j * 7, none⟩ = some (.int .i64 d.c) ∧ W.cell? ⟨b, o + j * 7 + 1, none⟩ = some (.int .i64 d.k.g) ∧ W.cell? ⟨b, o + j * 7 + 2, none⟩ = some (.int .i64 d.k.n) ∧ W.cell? ⟨b, o + j * 7 + 3, none⟩ = some (.int .i64 d.k.i) ∧ W.cell? ⟨b, o + j * 7 + 6, none⟩ = some (.slice d.a d.n d.cp)) := fun W hW => by
        obtain ⟨b', o', e, hc'⟩ := (HK.out.later hW (Nat.le_refl _)).2 (by omega)
        cases e
        obtain ⟨q0, q1, q2, q3, _, _, q6⟩ := hc' j d hd
        exact ⟨q0, q1, q2, q3, q6⟩
      have HRD := hide (HF.out d (List.mem_of_getElem? hd)).rd
      have hrl := HRD.out.le
      have hcp : d.cp ≤ 9223372036854775807 := by have := (HF.out d (List.mem_of_getElem? hd)).cap; unfold maxLen at this; omega
      obtain ⟨dc, κ, df, dv, da, dn, dp, dz⟩ := d
      simp only at HIN HRD hrl hcp
      obtain ⟨m, hm⟩ : ∃ m, min dn 40 = m := ⟨_, rfl⟩
      have hmI : min (dn : Int) 40 = (m : Int) := by omega
      have su := fun W => run_uptoI da dn dp m (by omega) W
      obtain ⟨z0, z1, z2, z3, z6⟩ := HIN.out wr hV.h.b
      have s0d : wr.drew.cell? ⟨b, o + j * 7 + 1, none⟩ = some (.int .i64 κ.g) ∧ wr.drew.cell? ⟨b, o + j * 7 + 2, none⟩ = some (.int .i64 κ.n) ∧ wr.drew.cell? ⟨b, o + j * 7 + 3, none⟩ = some (.int .i64 κ.i) ∧ wr.drew.cell? ⟨b, o + j * 7 + 6, none⟩ = some (.slice da dn dp) := ⟨z1, z2, z3, z6⟩
      have HLA := hide hV
      clear hc hd hV HV HK HF
      have hblt : b < wr.heap.size := lt_of_cell z1
      go_upto_region 9 with fail
      have hd60 : decide ((j : Int) < 60) = true := decide_eq_true (by omega)
      simp only [hd60]
      clear hd60
      go_cut [7, 8] from 31 to 48 (fun t7 t8 wx => t7 = .pointer (some ⟨wr.heap.size, 0, none⟩) ∧ t8 = .slice da m dp ∧ wx = (wr.alloc (.cells #[.int .i64 κ.g, .int .i64 κ.n, .int .i64 κ.i] 28)).drew)
      case first =>
        go_region_held3 (fun w' => w'.cell? ⟨b, o + j * 7 + 1, none⟩ = some (.int .i64 κ.g) ∧ w'.cell? ⟨b, o + j * 7 + 2, none⟩ = some (.int .i64 κ.n) ∧ w'.cell? ⟨b, o + j * 7 + 3, none⟩ = some (.int .i64 κ.i) ∧ w'.cell? ⟨b, o + j * 7 + 6, none⟩ = some (.slice da dn dp)) (first | with_reducible exact s0d | go_keep) (fail)
        all_goals
          go_wp2
          go_meet
          case rel => exact ⟨rfl, rfl, rfl⟩
      case rest =>
        obtain ⟨rfl, rfl, rfl⟩ := hcut
        have hb1 : Below wr.heap.size wr (wr.alloc (.cells #[.int .i64 κ.g, .int .i64 κ.n, .int .i64 κ.i] 28)).drew := (below_alloc wr _ wr.heap.size (Nat.le_refl _)).drew
        have HX1 : Hid ((wr.alloc (.cells #[.int .i64 κ.g, .int .i64 κ.n, .int .i64 κ.i] 28)).drew.heap[wr.heap.size]? = some (.cells #[.int .i64 κ.g, .int .i64 κ.n, .int .i64 κ.i] 28)) := heap_alloc_new wr _
        have HV1 := hide (HLA.out.fence hb1)
        have HRM := hide (HRD.out.take m (by omega))
        have HZR := hide ((HRD.out.take m (by omega)).later (HLA.out.h.b.trans (hb1.mono HLA.out.h.b.size)))
        have HIN1 := HIN.out _ HV1.out.h.b
        have HEQ : Hid (∀ k, k = wr.heap.size → E k ∨ (wr.heap.size ≤ k ∧ k < (wr.alloc (.cells #[.int .i64 κ.g, .int .i64 κ.n, .int .i64 κ.i] 28)).drew.heap.size)) := fun k hk => Or.inr ⟨by omega, by subst hk; exact lt_of_heap HX1.out⟩
        generalize (wr.alloc (.cells #[.int .i64 κ.g, .int .i64 κ.n, .int .i64 κ.i] 28)).drew = W3 at *
        generalize wr.heap.size = q at *
        clear HLA hb1 HRD s0d z0 z1 z2 z3 z6
        generalize hE1 : (fun k => E k ∨ (q ≤ k ∧ k < W3.heap.size)) = E1 at *
        have HQ : Hid (E1 q) := by rw [← hE1]; exact HEQ.out q rfl
        clear hE1 HEQ
        obtain ⟨z0, z1, z2, z3, z6⟩ := HIN1
        obtain ⟨x0, x1, x2⟩ := cells_three HX1.out
        obtain ⟨t, ht⟩ : ∃ t, dc.tmod 4 = t := ⟨_, rfl⟩
        go_upto_if 55 with fail
        go_cut [9] from 49 to 87 (fun _ wx => Hid (∃ E f N l c, N ≤ j + 1 ∧ LA w wx g r E f f N l c ∧ wx.heap[q]? = some (.cells #[.int .i64 κ.g, .int .i64 κ.n, .int .i64 κ.i] 28) ∧ E q))
        case first =>
          have hrow := HV1.out.at κ
          have lk := fun W (hb : Below W3.heap.size W3 W) => (HV1.out.later hb).look κ
          obtain ⟨p1, c1, hv1, hrd1, _⟩ := RowI.slice hrow
          rw [hv1] at hrow
          simp only [hv1] at lk
          obtain ⟨L, hL⟩ : ∃ L, (f κ).length = L := ⟨_, rfl⟩
          rw [hL] at lk hrow hrd1
          have hLl : L ≤ 100 := by rw [← hL]; exact HV1.out.ll κ
          have hm40 : m ≤ 40 := by omega
          by_cases ht0 : t = 0
          · have htb : (t == 0) = true := by simp [ht0]
            have hD := (Below.refl W3.heap.size W3).drew
            have lkd : (Instr.lookup 42 (.map (some r)) (.agg #[.int .i64 κ.g, .int .i64 κ.n, .int .i64 κ.i]) false).run Tryz.prog W3.drew = .ok (.slice p1 L c1) W3.drew := lk W3.drew hD
            have s0 : W3.drew.cell? ⟨q, 0, none⟩ = some (.int .i64 κ.g) ∧ W3.drew.cell? ⟨q, 1, none⟩ = some (.int .i64 κ.n) ∧ W3.drew.cell? ⟨q, 2, none⟩ = some (.int .i64 κ.i) := ⟨x0, x1, x2⟩
            have hat : (atE l κ).getD (.slice none 0 0) = .slice p1 L c1 := by rw [hv1, hL]
            have HC : Hid (Calls Tryz.prog 24 #[.pointer (some ⟨g, 0, none⟩), .agg #[.int .i64 κ.g, .int .i64 κ.n, .int .i64 κ.i]] W3.drew fun e w' => e = .returned (.int .i64 (L : Nat)) ∧ Hid (LA w w' g r E1 (updR f κ []) f N l c ∧ w'.heap[q]? = some (.cells #[.int .i64 κ.g, .int .i64 κ.n, .int .i64 κ.i] 28)) ∧ (Instr.lookup 42 (.map (some r)) (.agg #[.int .i64 κ.g, .int .i64 κ.n, .int .i64 κ.i]) false).run Tryz.prog w' = .ok (.slice p1 L c1) w' ∧ (w'.cell? ⟨q, 0, none⟩ = some (.int .i64 κ.g) ∧ w'.cell? ⟨q, 1, none⟩ = some (.int .i64 κ.n) ∧ w'.cell? ⟨q, 2, none⟩ = some (.int .i64 κ.i))) := by
              refine Calls.mono ((HV1.out.later hD).clear κ) ?_
              rintro e w' ⟨r1, r2, r3⟩
              rw [hL] at r1
              have hx := r3.old (boxed_old HX1.out hD) (fun e => e.2 HQ.out)
              have h1 := r2.look κ
              rw [hat] at h1
              exact ⟨r1, ⟨r2, hx⟩, h1, cells_three hx⟩
            clear lk hrow hrd1 hv1 hD hat
            go_upto_region 17 with fail
            go_cut [85] from 49 to 85 (fun x wx => x = .bool false ∧ Hid (LA w wx g r E1 (updR f κ []) f N l c ∧ wx.heap[q]? = some (.cells #[.int .i64 κ.g, .int .i64 κ.n, .int .i64 κ.i] 28)))
            case first =>
              go_region_held3 (fun w' => w'.cell? ⟨q, 0, none⟩ = some (.int .i64 κ.g) ∧ w'.cell? ⟨q, 1, none⟩ = some (.int .i64 κ.n) ∧ w'.cell? ⟨q, 2, none⟩ = some (.int .i64 κ.i)) (first | with_reducible exact s0 | with_reducible exact s1) ((go_at_call 24; with_reducible refine HC.out.mono ?_; rintro e w4 ⟨rfl, H4, lk4, s1⟩))
              all_goals
                go_wp2
                go_meet
                case rel => exact ⟨by simp, H4⟩
            case rest =>
              obtain ⟨rfl, H4⟩ := hcut
              obtain ⟨W7, l', c', up, hV7, hT7⟩ := H4.out.1.note κ (.slice none 0 0) [] (RowO.nil _ _ _ _) (fun k hk => by cases hk)
              have hqr : q ≠ r := fun e => by have := HX1.out; rw [e, HV1.out.m.heap] at this; simp at this
              have HF7 : Hid (∃ E f N l c, N ≤ j + 1 ∧ LA w W7 g r E f f N l c ∧ W7.heap[q]? = some (.cells #[.int .i64 κ.g, .int .i64 κ.n, .int .i64 κ.i] 28) ∧ E q) := ⟨_, _, _, _, _, by omega, hV7, hT7.old H4.out.2 (fun e => hqr e), HQ.out⟩
              obtain ⟨y0, y1, y2⟩ := cells_three H4.out.2
              clear hV7 hT7 hqr HC H4 lkd s0
              unfold k3E at up
              go_wp2
              go_meet
              case rel => exact HF7
          · have htb : (t == 0) = false := by simp [ht0]
            have lk0 : (Instr.lookup 42 (.map (some r)) (.agg #[.int .i64 κ.g, .int .i64 κ.n, .int .i64 κ.i]) false).run Tryz.prog W3 = .ok (.slice p1 L c1) W3 := lk W3 (Below.refl _ _)
            by_cases hroom : L + m ≤ 100
            · have hc : ¬ (100 : Int) < (L : Int) + (m : Int) := by omega
              have hD := (Below.refl W3.heap.size W3).drew
              obtain ⟨v1, W4, ap1, o1, g1⟩ := run_appB W3.heap.size W3.drew (.slice none 0 0) [] (World.ownsRow_nil _ _ _ _) p1 L c1 (f κ) (hrd1.later hD) (by simp; omega) (Nat.le_refl _)
              simp only [List.nil_append] at o1
              have hb4 : Below W3.heap.size W3 W4 := hD.grown g1 hD.size (fun k hk => by cases hk)
              obtain ⟨v2, W5, ap2, o2, g2⟩ := run_appB W3.heap.size W4 v1 (f κ) o1 da m dp (dz.take m) (HZR.out.later hb4) (by omega) hb4.size
              have hb5 : Below W3.heap.size W3 W5 := hb4.grown g2 hb4.size (fun k hk => (World.ownsRow.lt o1 k hk).1)
              have hV5 := HV1.out.fence hb5
              obtain ⟨W6, l', c', up, hV6, hT6⟩ := hV5.note κ v2 (f κ ++ dz.take m) (row_mono o2 (Nat.zero_le _)) (fun k hk => Or.inr (World.ownsRow.lt o2 k hk))
              have hqr : q ≠ r := fun e => by have := HX1.out; rw [e, HV1.out.m.heap] at this; simp at this
              have hx5 := boxed_old HX1.out hb5
              have HX6 := hide (hT6.old hx5 (fun e => hqr e))
              have HX4 := hide (boxed_old HX1.out hb4)
              have HX5 := hide hx5
              have HP : Hid (Calls Tryz.prog 23 #[.pointer (some ⟨g, 0, none⟩), .agg #[.int .i64 κ.g, .int .i64 κ.n, .int .i64 κ.i], .slice da m dp] W6 fun e w' => e = .returned (.int .i64 0) ∧ Hid (∃ E f N l c, N ≤ j + 1 ∧ LA w w' g r E f f N l c ∧ w'.heap[q]? = some (.cells #[.int .i64 κ.g, .int .i64 κ.n, .int .i64 κ.i] 28) ∧ E q)) := by
                have := hV6.push κ da m dp (dz.take m) (HRM.out.later hV6.h.b)
                rw [hL, if_pos hroom, if_pos hroom] at this
                refine Calls.mono this ?_
                rintro e w' ⟨r1, r2, r3⟩
                exact ⟨r1, _, _, _, _, _, by omega, r2, r3.old HX6.out (fun e => e.2 (Or.inl HQ.out)), Or.inl HQ.out⟩
              have lkd : (Instr.lookup 42 (.map (some r)) (.agg #[.int .i64 κ.g, .int .i64 κ.n, .int .i64 κ.i]) false).run Tryz.prog W3.drew = .ok (.slice p1 L c1) W3.drew := lk W3.drew hD
              have HA1 := hide ap1
              have HA2 := hide ap2
              obtain ⟨a0', a1', a2'⟩ := cells_three HX4.out
              obtain ⟨b0', b1', b2'⟩ := cells_three HX5.out
              clear lk hrow hrd1 hv1 hD o1 g1 hb4 o2 g2 hb5 hV5 hV6 hT6 hx5 ap1 ap2 HX4 HX5 hqr
              unfold k3E at up
              go_upto_region 14 with fail
              go_cut [] from 53 to 71 (fun wx => wx = W6)
              case first =>
                go_region_law (first | (refine step_ran rfl _ _ _ _ rfl (.slice none 0 0) (.slice p1 L c1) v1 (by rfl) (by rfl) HA1.out ?_) | (refine step_ran rfl _ _ _ _ rfl v1 (.slice da m dp) v2 (by rfl) (by rfl) HA2.out ?_))
                all_goals
                  go_wp2
                  go_meet
                  case rel => exact rfl
              case rest =>
                subst hcut
                obtain ⟨y0, y1, y2⟩ := cells_three HX6.out
                go_wp2_with fail
                refine HP.out.mono ?_
                rintro e w4 ⟨rfl, H4⟩
                clear HP y0 y1 y2
                go_wp2
                go_meet
                case rel => exact H4
            · have hc : (100 : Int) < (L : Int) + (m : Int) := by omega
              have HP : Hid (Calls Tryz.prog 23 #[.pointer (some ⟨g, 0, none⟩), .agg #[.int .i64 κ.g, .int .i64 κ.n, .int .i64 κ.i], .slice da m dp] W3 fun e w' => e = .returned (.int .i64 4) ∧ Hid (∃ E f N l c, N ≤ j + 1 ∧ LA w w' g r E f f N l c ∧ w'.heap[q]? = some (.cells #[.int .i64 κ.g, .int .i64 κ.n, .int .i64 κ.i] 28) ∧ E q)) := by
                have := HV1.out.push κ da m dp (dz.take m) HZR.out
                rw [hL, if_neg hroom, if_neg hroom] at this
                refine Calls.mono this ?_
                rintro e w' ⟨r1, r2, r3⟩
                exact ⟨r1, _, _, _, _, _, by omega, r2, r3.old HX1.out (fun e => e.2 HQ.out), HQ.out⟩
              clear lk hrow hrd1 hv1
              go_wp2_with fail
              refine HP.out.mono ?_
              rintro e w4 ⟨rfl, H4⟩
              clear HP
              go_wp2
              go_meet
              case rel => exact H4
        case rest =>
          obtain ⟨E2, f2, N2, l2, c2, hN2, hV2, hx2, hq2⟩ := hcut.out
          have HV2 := hide hV2
          have HX2 := hide hx2
          have HQ2 := hide hq2
          clear hcut hV2 hx2 hq2 HV1 HX1 HQ HZR HRM z0 z1 z2 z3 z6 x0 x1 x2
          obtain ⟨rg, hit⟩ := Itr.start undL HV2.out.m
          have hbi := below_alloc wc (.mapIter (some r) c2 #[] c2) wc.heap.size (Nat.le_refl _)
          have HVi := hide (HV2.out.fence hbi)
          have HXi := hide (boxed_old HX2.out hbi)
          have HIT := hide hit
          obtain ⟨gi, hgi⟩ : ∃ gi, gi = wc.heap.size := ⟨_, rfl⟩
          have hgr : gi ≠ r := by have := HV2.out.m.lt; omega
          obtain ⟨E3, hE3⟩ : ∃ E3 : Nat → Prop, E3 = (fun k => E2 k ∨ (wc.heap.size ≤ k ∧ k < (wc.alloc (.mapIter (some r) c2 #[] c2)).heap.size)) := ⟨_, rfl⟩
          rw [← hE3] at HVi
          have HEI : Hid (E3 gi ∧ E3 q) := by
            rw [hE3]
            exact ⟨Or.inr ⟨by omega, by simp; omega⟩, Or.inl HQ2.out⟩
          clear hE3
          rw [← hgi] at HIT rg
          have hqgi : q ≠ gi := by have := lt_of_heap HX2.out; omega
          clear hit hbi HV2 HX2 HQ2
          go_wp2
          clear rg
          generalize wc.alloc (.mapIter (some r) c2 #[] c2) = W6 at *
          rw [← hgi]
          clear hgi
          go_loopg [10] l2.length (fun gm vn wr => ∃ (todo : List (Ent K3)) (n : Nat), gm = todo.length ∧ vn = .int .i64 n ∧ n + cntL f2 todo = cntL f2 l2 ∧ n ≤ l2.length ∧ Hid (Itr k3E wr gi r l2 todo c2) ∧ Hid (∀ x ∈ todo, x ∈ l2) ∧ Hid (LA w wr g r E3 f2 f2 N2 l2 c2) ∧ Hid (wr.heap[q]? = some (.cells #[.int .i64 κ.g, .int .i64 κ.n, .int .i64 κ.i] 28)))
          case atStart => exact ⟨l2, 0, rfl, rfl, by omega, by omega, HIT, fun x hx => hx, HVi, HXi⟩
          case round =>
            obtain ⟨todo, nn, rfl, rfl, hcn, hnl, HI, HSUB, HA, HX⟩ := hrel
            rcases HI.out.next hgr 0 with ⟨htd, nx⟩ | ⟨x, hx, W', todo', nx, en, hit', hp, hg⟩
            · subst htd
              have hcn' : nn = cntL f2 l2 := by have e : cntL f2 [] = 0 := rfl; omega
              clear HI HSUB HIT HVi HXi
              have HKY := hide (HA.out.h.keys (by omega))
              go_wp2_with fail
              refine HKY.out.mono ?_
              rintro e W7 ⟨pk, qk, ks, rfl, m1, r1, o1, b1⟩
              have hkn : ks.length = nn := by rw [hcn']; exact HA.out.count m1 r1
              have HV7 := hide (HA.out.later b1)
              have HX7 := hide (boxed_old HX.out b1)
              have hkl : ks.length ≤ 1000 := by
                have := HA.out.h.l.klen r1.nodup (fun k hk => (m1 k).1 hk)
                omega
              have HRS := hide (rising_true _ pk qk ks W7 o1 r1 (by omega))
              have hki : (ks.length : Int) = (nn : Int) := by omega
              clear m1 r1 o1 b1 HKY HA HX nx hcn hcn' hkn
              go_wp2_with fail
              refine HRS.out.mono ?_
              rintro e W8 ⟨rfl, b8⟩
              have HV8 := hide (HV7.out.later b8)
              have HX8 := hide (boxed_old HX7.out b8)
              clear b8 HRS HV7 HX7
              obtain ⟨x0, x1, x2⟩ := cells_three HX8.out
              have HLI := hide (HV8.out.h.list κ (HV8.out.ll κ))
              unfold k3E at HLI
              go_wp2_with fail
              refine HLI.out.mono ?_
              rintro e W9 ⟨pg, cg, rfl, og, b9⟩
              have hLl := HV8.out.ll κ
              have HVF := hide (HV8.out.fence b9)
              have HXF := hide (boxed_old HX8.out b9)
              have HGG : Hid (0 < (f2 κ).length → ∃ gg, pg = some ⟨gg, 0, none⟩ ∧ (W8.heap.size ≤ gg ∧ gg < W9.heap.size) ∧ (f2 κ).length ≤ cg ∧ Gt W9 gg (f2 κ) 0) := fun hp => by
                obtain ⟨gg, e1, e2, e3, e4⟩ := og.gt hp
                subst e1
                exact ⟨gg, rfl, ⟨e2, (og.lt gg rfl).2⟩, e4, e3⟩
              have HOLD : Hid (r < W8.heap.size ∧ q < W8.heap.size ∧ ∀ x ∈ l2, ∀ i, x.v.ownBlock = some i → i < W8.heap.size) := ⟨HV8.out.m.lt, lt_of_heap HX8.out, fun x hx i hi => (HV8.out.row x hx).1.ltb hi⟩
              obtain ⟨E4, hE4⟩ : ∃ E4 : Nat → Prop, E4 = (fun k => E3 k ∨ (W8.heap.size ≤ k ∧ k < W9.heap.size)) := ⟨_, rfl⟩
              rw [← hE4] at HVF
              have HE4 : Hid (∀ k, W8.heap.size ≤ k ∧ k < W9.heap.size → E4 k) := fun k hk => by rw [hE4]; exact Or.inr hk
              obtain ⟨v0, hv0⟩ : ∃ v0, (atE l2 κ).getD (.slice none 0 0) = v0 := ⟨_, rfl⟩
              have HLK : Hid (∀ W f N, LA w W g r E4 f f2 N l2 c2 → (Instr.lookup 42 (.map (some r)) (.agg #[.int .i64 κ.g, .int .i64 κ.n, .int .i64 κ.i]) false).run Tryz.prog W = .ok v0 W ∧ RowI W v0 (f2 κ)) := fun W f N h => by
                have h1 := h.look κ
                have h2 := h.at κ
                rw [hv0] at h1 h2
                exact ⟨h1, h2⟩
              obtain ⟨p1, c1, hv1, _, _⟩ := RowI.slice (HLK.out W9 f2 N2 HVF.out).2
              subst hv1
              have lk9 := (HLK.out W9 f2 N2 HVF.out).1
              clear x0 x1 x2
              obtain ⟨x0, x1, x2⟩ := cells_three HXF.out
              clear og b9 hE4 hv0 HV8 HX8 HLI
              obtain ⟨z, hz⟩ : ∃ z, f2 κ = z := ⟨_, rfl⟩
              rw [hz] at hLl HGG HLK lk9 ⊢
              go_wp2
              clear lk9 x0 x1 x2
              go_loopg [122] z.length (fun gm ix wx => ∃ jj : Nat, gm = z.length - jj ∧ jj ≤ z.length ∧ ix = .int .i64 jj ∧ Hid (LA w wx g r E4 f2 f2 N2 l2 c2) ∧ Hid (wx.heap[q]? = some (.cells #[.int .i64 κ.g, .int .i64 κ.n, .int .i64 κ.i] 28)) ∧ Hid (∀ gg, pg = some ⟨gg, 0, none⟩ → 0 < z.length → Gt wx gg z jj))
              case atStart => exact ⟨0, rfl, by omega, rfl, HVF, HXF, fun gg e hp => by
                obtain ⟨g2, e1, _, _, e4⟩ := HGG.out hp
                rw [e] at e1
                cases e1
                exact e4⟩
              case round =>
                obtain ⟨jj, rfl, hjj, rfl, HA, HX, HGt⟩ := hrel
                by_cases hlt2 : jj < z.length
                · obtain ⟨gg, rfl, ⟨hg1, hg2⟩, hcg, _⟩ := HGG.out (by omega)
                  have hGt := HGt.out gg rfl (by omega)
                  obtain ⟨x, hx⟩ : ∃ x, z[jj]? = some x := ⟨_, List.getElem?_eq_getElem hlt2⟩
                  obtain ⟨ao', cp', ev, hrd, _⟩ := RowI.slice (HLK.out wr f2 N2 HA.out).2
                  simp only [Value.slice.injEq, true_and] at ev
                  obtain ⟨rfl, rfl⟩ := ev
                  obtain ⟨bb, oo, rfl, hcc⟩ := hrd.addr (by omega)
                  have cw := hcc jj x hx
                  have hc1 : jj < c1 := by have := hrd.le; omega
                  have hcg' : jj < cg := by omega
                  obtain ⟨cg1, fg1⟩ := hGt.cell hx
                  obtain ⟨x0, x1, x2⟩ := cells_three HX.out
                  have lk : ∀ n, (Instr.lookup 42 (.map (some r)) (.agg #[.int .i64 κ.g, .int .i64 κ.n, .int .i64 κ.i]) false).run Tryz.prog (wr.drewN n) = .ok (.slice (some ⟨bb, oo, none⟩) z.length c1) (wr.drewN n) := fun n => (HLK.out _ f2 N2 (HA.out.later (below_drewN (Below.refl _ _) n))).1
                  have HN : Hid (∀ n, (wr.drewN n).cell? ⟨gg, jj, none⟩ = some (.int .i64 x) ∧ (wr.drewN n).frozen? ⟨gg, jj, none⟩ = false ∧ ∀ v, LA w ((wr.drewN n).setCell ⟨gg, jj, none⟩ v) g r E4 f2 f2 N2 l2 c2 ∧ ((wr.drewN n).setCell ⟨gg, jj, none⟩ v).heap[q]? = some (.cells #[.int .i64 κ.g, .int .i64 κ.n, .int .i64 κ.i] 28) ∧ Gt ((wr.drewN n).setCell ⟨gg, jj, none⟩ v) gg z (jj + 1)) := fun n => by
                    have hd := below_drewN (Below.refl wr.heap.size wr) n
                    have hGn : Gt (wr.drewN n) gg z jj := by
                      obtain ⟨cur, h1, h2, h3⟩ := hGt
                      exact ⟨cur, (hd.block _ (lt_of_heap h1)).trans h1, h2, h3⟩
                    obtain ⟨k1, k2⟩ := hGn.cell hx
                    have ho := HOLD.out
                    refine ⟨k1, k2, fun v => ?_⟩
                    have ht : Tch (fun j => j = gg) (wr.drewN n) ((wr.drewN n).setCell ⟨gg, jj, none⟩ v) := (Tch.of (grown_setCell _ gg jj v)).mono (fun _ _ e => Option.some.inj e)
                    exact ⟨(HA.out.later hd).poke (by omega) (HE4.out gg ⟨hg1, hg2⟩) (fun y hy e => by have := ho.2.2 y hy gg e; omega) ht, ht.old (boxed_old HX.out hd) (by omega), hGn.set v⟩
                  clear HA HX HGt hGt hcc hrd hx HVF HXF hcg
                  go_wp2
                  go_quiet (fail)
                  obtain ⟨k1, k2, HN1⟩ := HN.out nq
                  have HN2 := hide HN1
                  clear HN HN1 lk cw cg1 fg1 x0 x1 x2
                  generalize wr.drewN nq = Wq at *
                  go_wp2
                  go_roundg (z.length - (jj + 1))
                  case measure => omega
                  case rel => exact ⟨jj + 1, rfl, by omega, by simp, (HN2.out _).1, (HN2.out _).2.1, fun gg' e _ => by cases e; exact (HN2.out _).2.2⟩
                · obtain rfl : jj = z.length := by omega
                  have HFI : Hid (∃ E f N l c, N ≤ j + 1 ∧ LA w wr g r E f f N l c) := ⟨E4, f2, N2, l2, c2, hN2, HA.out⟩
                  clear HA HX HGt HVF HXF HGG HOLD HE4 HLK
                  go_wp2
                  go_roundg (60 - (j + 1))
                  case measure => omega
                  case rel => exact ⟨j + 1, rfl, by omega, by omega, by simp, HFI⟩
            · have hrow := (HA.out.row x (HSUB.out x hx)).1
              obtain ⟨p, cp, hxv, _⟩ := RowI.slice hrow
              obtain ⟨L, hL⟩ : ∃ L, (f2 x.k).length = L := ⟨_, rfl⟩
              rw [hL] at hxv
              rw [hxv] at nx en
              have hcp := cntL_perm (fm := f2) hp
              rw [hL] at hcp
              have hlen := hp.length_eq
              rw [List.length_cons] at hlen
              have HI' := hide hit'
              have HS' : Hid (∀ y ∈ todo', y ∈ l2) := fun y hy => HSUB.out y (hp.mem_iff.2 (List.mem_cons_of_mem _ hy))
              have HA' := hide (HA.out.step HI.out hgr HEI.out.1 hg)
              have HX' : Hid (W'.heap[q]? = some (.cells #[.int .i64 κ.g, .int .i64 κ.n, .int .i64 κ.i] 28)) := (hg.block q (lt_of_heap HX.out) (fun e => hqgi (Option.some.inj e))).trans HX.out
              have hcl : cntL f2 l2 ≤ l2.length := List.countP_le_length
              have hfew := HA.out.few
              have hnn : nn ≤ 100 := by omega
              clear hit' hp hg HI HSUB HA HX hrow hxv hx
              by_cases hL0 : L = 0
              · subst hL0
                rw [if_pos rfl] at hcp
                go_wp2
                go_roundg todo'.length
                case measure => omega
                case rel => exact ⟨todo', nn, rfl, rfl, by omega, hnl, HI', HS', HA', HX'⟩
              · rw [if_neg hL0] at hcp
                have hpos : (0 : Int) < (L : Int) := by omega
                go_wp2
                go_roundg todo'.length
                case measure => omega
                case rel => exact ⟨todo', nn + 1, rfl, by simp, by omega, by omega, HI', HS', HA', HX'⟩
    · have hcs : (¬ j < n0) ∨ (j < n0 ∧ ¬ j < 60) := by omega
      have HFB : Hid (Below w.heap.size w wr) := by obtain ⟨E, f, N, l, c, _, hV⟩ := HV.out; exact hV.h.b
      clear hin HV HK
      rcases hcs with hh | ⟨hh, hh2⟩
      all_goals
        go_wp2
        go_ret
        exact ⟨rfl, HFB.out⟩
end Go.Proofs.YtkchfbigkecodaaGreat.listAll
