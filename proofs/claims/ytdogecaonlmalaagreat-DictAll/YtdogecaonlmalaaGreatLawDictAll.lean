/- The statement DictAll: fields at any keys: what is put, cut, told, for all steps. -/
import Derived.Test.YtdogecaonlmalaaGreatDcA
import Derived.Test.YtdogecaonlmalaaGreatBeg7
import Derived.WalkSpells
import Derived.Test.YtdogecaonlmalaaGreatLawA
import Derived.Deep.LoopGhost
import Derived.Deep.CutBlock
import Derived.Deep.CutRange
namespace Go.Proofs.YtdogecaonlmalaaGreat.dictAll
open Go.ChangeShapes Go.WideShapes Go.ChangeAt Go.RowKit Go.MapKept Go.ChangeMaps

set_option maxRecDepth 100000 in
set_option maxHeartbeats 8000000 in
theorem walk (a0 : Option Addr) (n0 c0 : Nat) (d0 : List Kop) (w : World) (h0 : Kos w a0 n0 d0) (_f0 : ∀ d ∈ d0, wfKo w d) (_l0 : n0 ≤ c0) (_m0 : c0 ≤ 9223372036854775807) :
    Calls Tryz.prog 3 #[.slice a0 n0 c0] w fun e w' => e = .returned (.bool true) ∧ Below w.heap.size w w' := by
  have hmm := @run_makeMap Tryz.prog
  have HK := hide h0
  clear h0 _f0 _m0
  go_enter Tryz.func3, Tryz.ntmps3
  go_wp2_with fail
  refine (begun7_true _).mono ?_
  rintro e w1 ⟨rfl, hb1⟩
  go_wp2_with fail
  refine (dictNew _).mono ?_
  rintro e w2 ⟨rfl, rfl⟩
  have hz : (w1.alloc (rmObj 69 none)).heap.size = w1.heap.size + 1 := by simp
  have HV0 : Hid (∃ E fd N l c, N ≤ 0 ∧ DA w ((w1.alloc (rmObj 69 none)).alloc (.map #[] 0)) w1.heap.size (w1.heap.size + 1) E fd fd N l c) := by
    have hl := (Dh.new w w1 hb1).box (.map #[] 0)
    rw [hz] at hl
    have hm := Mp.new (E := k3E) (w1.alloc (rmObj 69 none))
    rw [hz] at hm
    exact ⟨_, _, 0, [], 0, Nat.le_refl _, hl, hm, Or.inr rfl, fun k hk => by have := hb1.size; rcases hk with e | e; exact e.elim; omega, fun x hx => by simp at hx, fun x hx => by simp at hx, fun _ _ => rfl, fun _ => OkF.nil⟩
  clear hb1
  go_wp2_with fail
  clear hz
  generalize (w1.alloc (rmObj 69 none)).alloc (.map #[] 0) = W2 at *
  generalize w1.heap.size = g at *
  generalize g + 1 = r at *
  go_loopg [6] 60 (fun gm i wr => ∃ j : Nat, gm = 60 - j ∧ j ≤ n0 ∧ j ≤ 60 ∧ i = .int .i64 j ∧ Hid (∃ E fd N l c, N ≤ j ∧ DA w wr g r E fd fd N l c))
  case atStart => exact ⟨0, rfl, by omega, by omega, rfl, HV0⟩
  case round =>
    clear HV0
    obtain ⟨j, rfl, hj, hj60, rfl, HV⟩ := hrel
    by_cases hin : j < n0 ∧ j < 60
    · obtain ⟨hlt, hlt60⟩ := hin
      obtain ⟨d, hd⟩ : ∃ d, d0[j]? = some d := ⟨_, List.getElem?_eq_getElem (by rw [HK.out.1]; exact hlt)⟩
      obtain ⟨E, fd, N, l, c, hN, hV⟩ := HV.out
      obtain ⟨b, o, rfl, hc⟩ := (HK.out.later hV.h.b (Nat.le_refl _)).2 (by omega)
      have HIN : Hid (∀ W, Below w.heap.size w W → W.cell? ⟨b, o + j * 7, none⟩ = some (.int .i64 d.c) ∧ W.cell? ⟨b, o + j * 7 + 1, none⟩ = some (.int .i64 d.k.g) ∧ W.cell? ⟨b, o + j * 7 + 2, none⟩ = some (.int .i64 d.k.n) ∧ W.cell? ⟨b, o + j * 7 + 3, none⟩ = some (.int .i64 d.k.i) ∧ W.cell? ⟨b, o + j * 7 + 4, none⟩ = some (.int .i64 d.f) ∧ W.cell? ⟨b, o + j * 7 + 5, none⟩ = some (.int .i64 d.v)) := fun W hW => by
        obtain ⟨b', o', e, hc'⟩ := (HK.out.later hW (Nat.le_refl _)).2 (by omega)
        cases e
        obtain ⟨q0, q1, q2, q3, q4, q5, _⟩ := hc' j d hd
        exact ⟨q0, q1, q2, q3, q4, q5⟩
      obtain ⟨dc, κ, df, dv, da, dn, dp, dz⟩ := d
      simp only at HIN
      obtain ⟨z0, z1, z2, z3, z4, z5⟩ := HIN.out wr hV.h.b
      have s0d : wr.drew.cell? ⟨b, o + j * 7 + 1, none⟩ = some (.int .i64 κ.g) ∧ wr.drew.cell? ⟨b, o + j * 7 + 2, none⟩ = some (.int .i64 κ.n) ∧ wr.drew.cell? ⟨b, o + j * 7 + 3, none⟩ = some (.int .i64 κ.i) ∧ wr.drew.cell? ⟨b, o + j * 7 + 4, none⟩ = some (.int .i64 df) := ⟨z1, z2, z3, z4⟩
      have HLA := hide hV
      clear hc hd hV HV HK
      have hblt : b < wr.heap.size := lt_of_cell z1
      go_upto_region 9 with fail
      have hd60 : decide ((j : Int) < 60) = true := decide_eq_true (by omega)
      try simp only [hd60]
      clear hd60
      go_cut [7, 8] from 38 to 47 (fun t7 t8 wx => t7 = .pointer (some ⟨wr.heap.size, 0, none⟩) ∧ t8 = .int .i64 df ∧ wx = (wr.alloc (.cells #[.int .i64 κ.g, .int .i64 κ.n, .int .i64 κ.i] 28)).drew)
      case first =>
        go_region_held3 (fun w' => w'.cell? ⟨b, o + j * 7 + 1, none⟩ = some (.int .i64 κ.g) ∧ w'.cell? ⟨b, o + j * 7 + 2, none⟩ = some (.int .i64 κ.n) ∧ w'.cell? ⟨b, o + j * 7 + 3, none⟩ = some (.int .i64 κ.i) ∧ w'.cell? ⟨b, o + j * 7 + 4, none⟩ = some (.int .i64 df)) (first | with_reducible exact s0d | go_keep) (fail)
        all_goals
          go_wp2
          go_meet
          case rel => exact ⟨rfl, rfl, rfl⟩
      case rest =>
        obtain ⟨rfl, rfl, rfl⟩ := hcut
        have hb1 : Below wr.heap.size wr (wr.alloc (.cells #[.int .i64 κ.g, .int .i64 κ.n, .int .i64 κ.i] 28)).drew := (below_alloc wr _ wr.heap.size (Nat.le_refl _)).drew
        have HX1 : Hid ((wr.alloc (.cells #[.int .i64 κ.g, .int .i64 κ.n, .int .i64 κ.i] 28)).drew.heap[wr.heap.size]? = some (.cells #[.int .i64 κ.g, .int .i64 κ.n, .int .i64 κ.i] 28)) := heap_alloc_new wr _
        have HV1 := hide (HLA.out.fence hb1)
        have HIN1 := HIN.out _ HV1.out.h.b
        have HEQ : Hid (∀ k, k = wr.heap.size → E k ∨ (wr.heap.size ≤ k ∧ k < (wr.alloc (.cells #[.int .i64 κ.g, .int .i64 κ.n, .int .i64 κ.i] 28)).drew.heap.size)) := fun k hk => Or.inr ⟨by omega, by subst hk; exact lt_of_heap HX1.out⟩
        have hqr : wr.heap.size ≠ r := by have := HLA.out.m.lt; omega
        generalize (wr.alloc (.cells #[.int .i64 κ.g, .int .i64 κ.n, .int .i64 κ.i] 28)).drew = W3 at *
        generalize wr.heap.size = q at *
        clear HLA hb1 s0d z0 z1 z2 z3 z4 z5
        generalize hE1 : (fun k => E k ∨ (q ≤ k ∧ k < W3.heap.size)) = E1 at *
        have HQ : Hid (E1 q) := by rw [← hE1]; exact HEQ.out q rfl
        clear hE1 HEQ
        obtain ⟨z0, z1, z2, z3, z4, z5⟩ := HIN1
        obtain ⟨x0, x1, x2⟩ := cells_three HX1.out
        obtain ⟨t, ht⟩ : ∃ t, dc.tmod 3 = t := ⟨_, rfl⟩
        obtain ⟨mo, lk, him, hmo, hmx⟩ := HV1.out.look κ
        unfold k3E at lk
        have lki := him.look df
        obtain ⟨was, hwas⟩ : ∃ b, (fldZ (fd κ) df).isSome = b := ⟨_, rfl⟩
        obtain ⟨wv, hwv⟩ : ∃ v, (fldZ (fd κ) df).getD 0 = v := ⟨_, rfl⟩
        rw [hwas, hwv] at lki
        clear hwv
        obtain ⟨ib, hib⟩ : ∃ b : Bool, (b = true ↔ (0 ≤ df ∧ df < 8)) := by
          by_cases h : 0 ≤ df ∧ df < 8
          · exact ⟨true, fun _ => h, fun _ => rfl⟩
          · exact ⟨false, fun e => (by cases e), fun e => absurd e h⟩
        have HIB := hide hib
        clear hib
        go_upto_region 10 with fail
        go_cut [9] from 48 to 53 (fun t9 wx => t9 = .bool ib ∧ wx = W3)
        case first =>
          by_cases h0 : 0 ≤ df
          · by_cases h8 : df < 8
            · obtain rfl : ib = true := HIB.out.2 ⟨h0, h8⟩
              clear HIB
              go_wp2
              go_meet
              case rel => exact ⟨rfl, rfl⟩
            · obtain rfl : ib = false := by
                cases ib with
                | false => rfl
                | true => exact absurd (HIB.out.1 rfl).2 h8
              clear HIB
              go_wp2
              go_meet
              case rel => exact ⟨rfl, rfl⟩
          · obtain rfl : ib = false := by
              cases ib with
              | false => rfl
              | true => exact absurd (HIB.out.1 rfl).1 h0
            clear HIB
            go_wp2
            go_meet
            case rel => exact ⟨rfl, rfl⟩
        case rest =>
          obtain ⟨rfl, hw3⟩ := hcut
          have hw3' := hw3.symm
          subst hw3'
          clear hw3
          go_upto_if 68 with fail
          generalize htb : (t != 0) = tb
          have HDF := hide (And.intro hmo hmx)
          go_cut [12] from 67 to 106 (fun _ wx => Hid (∃ E fd N l c, N ≤ j + 1 ∧ DA w wx g r E fd fd N l c ∧ wx.heap[q]? = some (.cells #[.int .i64 κ.g, .int .i64 κ.n, .int .i64 κ.i] 28) ∧ E q))
          case first =>
            by_cases ht0 : t = 0
            · obtain rfl : tb = false := by rw [← htb]; exact bne_eq_false_iff_eq.2 ht0
              clear ht0 HDF hmo hmx him
              have HC : Hid (Calls Tryz.prog 7 #[.pointer (some ⟨g, 0, none⟩), .agg #[.int .i64 κ.g, .int .i64 κ.n, .int .i64 κ.i], .int .i64 df] W3 fun e w' => e = .returned (.bool was) ∧ Hid (DA w w' g r E1 (updR fd κ (cutZ (fd κ) df)) fd (N + 1) l c ∧ w'.heap[q]? = some (.cells #[.int .i64 κ.g, .int .i64 κ.n, .int .i64 κ.i] 28))) := by
                refine Calls.mono (HV1.out.cut κ df) ?_
                rintro e w' ⟨r1, r2, r3⟩
                rw [hwas] at r1
                exact ⟨r1, r2, r3.old HX1.out (fun e => e.2 HQ.out)⟩
              clear hwas
              go_wp2_with fail
              refine HC.out.mono ?_
              rintro e w4 ⟨rfl, H4⟩
              clear HC lk lki x0 x1 x2 z0 z1 z2 z3 z4 z5
              obtain ⟨mo', W5, lk5, del5, hV5, hst5⟩ := H4.out.1.delete κ df
              unfold k3E at lk5
              have HF : Hid (∃ E fd N l c, N ≤ j + 1 ∧ DA w W5 g r E fd fd N l c ∧ W5.heap[q]? = some (.cells #[.int .i64 κ.g, .int .i64 κ.n, .int .i64 κ.i] 28) ∧ E q) := ⟨_, _, _, _, _, by omega, hV5, hst5 _ _ _ _ H4.out.2, HQ.out⟩
              obtain ⟨y0, y1, y2⟩ := cells_three H4.out.2
              clear hV5 hst5 H4
              cases was <;> go_wp2
              all_goals
                go_meet
                case rel => exact HF
            · obtain rfl : tb = true := by rw [← htb]; exact bne_iff_ne.2 ht0
              clear ht0 hwas
              cases ib with
              | false =>
                have hnf : ¬ (0 ≤ df ∧ df < 8) := fun e => by have := HIB.out.2 e; cases this
                have HP : Hid (Calls Tryz.prog 6 #[.pointer (some ⟨g, 0, none⟩), .agg #[.int .i64 κ.g, .int .i64 κ.n, .int .i64 κ.i], .int .i64 df, .int .i64 dv] W3.drew fun e w' => e = .returned (.int .i64 2) ∧ Hid (∃ E fd N l c, N ≤ j + 1 ∧ DA w w' g r E fd fd N l c ∧ w'.heap[q]? = some (.cells #[.int .i64 κ.g, .int .i64 κ.n, .int .i64 κ.i] 28) ∧ E q) ∧ (w'.cell? ⟨q, 0, none⟩ = some (.int .i64 κ.g) ∧ w'.cell? ⟨q, 1, none⟩ = some (.int .i64 κ.n) ∧ w'.cell? ⟨q, 2, none⟩ = some (.int .i64 κ.i) ∧ w'.cell? ⟨b, o + j * 7 + 5, none⟩ = some (.int .i64 dv))) := by
                  have hD := (Below.refl W3.heap.size W3).drew
                  refine Calls.mono ((HV1.out.later hD).putBad κ df dv hnf) ?_
                  rintro e w' ⟨r1, r2, r3⟩
                  have hx := boxed_old (show W3.drew.heap[q]? = _ from HX1.out) r3
                  obtain ⟨y0, y1, y2⟩ := cells_three hx
                  exact ⟨r1, ⟨_, _, _, _, _, by omega, r2, hx, HQ.out⟩, y0, y1, y2, (HIN.out _ r2.h.b).2.2.2.2.2⟩
                have s0 : W3.drew.cell? ⟨q, 0, none⟩ = some (.int .i64 κ.g) ∧ W3.drew.cell? ⟨q, 1, none⟩ = some (.int .i64 κ.n) ∧ W3.drew.cell? ⟨q, 2, none⟩ = some (.int .i64 κ.i) ∧ W3.drew.cell? ⟨b, o + j * 7 + 5, none⟩ = some (.int .i64 dv) := ⟨x0, x1, x2, z5⟩
                clear HIB hnf HDF hmo hmx him lk lki x0 x1 x2
                go_upto_region 19 with fail
                go_region_held3 (fun w' => w'.cell? ⟨q, 0, none⟩ = some (.int .i64 κ.g) ∧ w'.cell? ⟨q, 1, none⟩ = some (.int .i64 κ.n) ∧ w'.cell? ⟨q, 2, none⟩ = some (.int .i64 κ.i) ∧ w'.cell? ⟨b, o + j * 7 + 5, none⟩ = some (.int .i64 dv)) (first | with_reducible exact s0 | with_reducible exact s1) ((go_at_call 6; with_reducible refine HP.out.mono ?_; rintro e w4 ⟨rfl, H4, s1⟩))
                all_goals
                  go_wp2
                  go_meet
                  case rel => exact H4
              | true =>
                obtain ⟨f0, f8⟩ := HIB.out.1 rfl
                clear HIB
                obtain ⟨nb, hnb⟩ : ∃ nb : Bool, (nb = true ↔ mo = Option.none) := by
                  cases mo with
                  | none => exact ⟨true, fun _ => rfl, fun _ => rfl⟩
                  | some m => exact ⟨false, fun e => (by cases e), fun e => (by cases e)⟩
                have HNB := hide hnb
                clear hnb
                go_upto_region 16 with fail
                go_cut [73] from 70 to 73 (fun c wx => c = .bool nb ∧ wx = W3)
                case first =>
                  have heq : ∀ W : World, (binOp .eql 33 (.map mo) (.map Option.none)).run Tryz.prog W = .ok (.bool nb) W := fun W => by
                    have h := HNB.out
                    have e : mo.isNone = nb := by
                      cases mo with
                      | none => exact (h.2 rfl).symm
                      | some m =>
                        cases nb with
                        | false => rfl
                        | true => exact absurd (h.1 rfl) (by simp)
                    rw [← e]
                    exact Go.run_eql_map_nil W _ _ _ mo undMI
                  clear HNB HDF hmo hmx him
                  go_wp2
                  go_meet
                  case rel => exact ⟨rfl, rfl⟩
                case' rest => obtain ⟨rfl, hw3⟩ := hcut; have hw3' := hw3.symm; subst hw3'; clear hw3
                go_upto_if 73 with fail
                go_cut [] from 74 to 76 (fun wx => Hid (∃ E l c, DA w wx g r E fd fd N l c ∧ κ ∈ l.map Ent.k ∧ wx.heap[q]? = some (.cells #[.int .i64 κ.g, .int .i64 κ.n, .int .i64 κ.i] 28) ∧ E q))
                case first =>
                  cases mo with
                  | some m =>
                    obtain rfl : nb = false := by
                      cases nb with
                      | false => rfl
                      | true => exact absurd (HNB.out.1 rfl) (by simp)
                    have HF : Hid (∃ E l c, DA w W3 g r E fd fd N l c ∧ κ ∈ l.map Ent.k ∧ W3.heap[q]? = some (.cells #[.int .i64 κ.g, .int .i64 κ.n, .int .i64 κ.i] 28) ∧ E q) := by
                      obtain ⟨x, hx, e, _⟩ := HDF.out.2 m rfl
                      exact ⟨_, _, _, HV1.out, by rw [← e]; exact List.mem_map.2 ⟨x, hx, rfl⟩, HX1.out, HQ.out⟩
                    clear HDF hmo hmx him
                    go_wp2
                    go_meet
                    case rel => exact HF
                  | none =>
                    obtain rfl : nb = true := HNB.out.2 rfl
                    have hno := HDF.out.1.1 rfl
                    have hb4 := below_alloc W3 (.map #[] 0) W3.heap.size (Nat.le_refl _)
                    have hs4 : (W3.alloc (.map #[] 0)).heap.size = W3.heap.size + 1 := by simp
                    have hV4 := HV1.out.fence hb4
                    have him4 : Im (W3.alloc (.map #[] 0)) (some W3.heap.size) [] := ⟨fun m e => by cases e; exact ⟨[], 0, Mp.new W3, fun f => rfl⟩, fun e => (by cases e)⟩
                    obtain ⟨W5, up, hV5, hT5⟩ := hV4.fresh κ hno him4 (Or.inr ⟨Nat.le_refl _, by omega⟩) (by have := HV1.out.m.lt; omega) (fun x hx e => by
                      obtain ⟨m', e1, e2, _⟩ := HV1.out.row x hx
                      rw [e1] at e
                      have := e2.lt
                      have : m' = W3.heap.size := by simpa using e
                      omega)
                    have HF : Hid (∃ E l c, DA w W5 g r E fd fd N l c ∧ κ ∈ l.map Ent.k ∧ W5.heap[q]? = some (.cells #[.int .i64 κ.g, .int .i64 κ.n, .int .i64 κ.i] 28) ∧ E q) := ⟨_, _, _, hV5, by simp, hT5.old (boxed_old HX1.out hb4) (fun e => hqr e), Or.inl HQ.out⟩
                    obtain ⟨y0, y1, y2⟩ := cells_three (boxed_old HX1.out hb4)
                    unfold k3E at up
                    clear HDF hmo hmx him hno hb4 hs4 hV4 him4 hV5 hT5
                    go_wp2
                    go_meet
                    case rel => exact HF
                case rest =>
                  obtain ⟨E2, l2, c2, hV2, hk2, hx2, hq2⟩ := hcut.out
                  clear hcut HDF hmo hmx him lk lki x0 x1 x2 z0 z1 z2 z3 z4 z5
                  have hD := (Below.refl wc.heap.size wc).drew
                  have hVd := hV2.later hD
                  obtain ⟨m, W5, lk5, up5, hV5, hst5⟩ := hVd.store κ hk2 df dv f0 f8
                  have hx5 := hst5 _ _ _ _ (show wc.drew.heap[q]? = _ from hx2)
                  have hD5 := (Below.refl W5.heap.size W5).drew
                  have HX5 := hide hx5
                  have HP : Hid (Calls Tryz.prog 6 #[.pointer (some ⟨g, 0, none⟩), .agg #[.int .i64 κ.g, .int .i64 κ.n, .int .i64 κ.i], .int .i64 df, .int .i64 dv] W5.drew fun e w' => e = .returned (.int .i64 0) ∧ Hid (∃ E fd N l c, N ≤ j + 1 ∧ DA w w' g r E fd fd N l c ∧ w'.heap[q]? = some (.cells #[.int .i64 κ.g, .int .i64 κ.n, .int .i64 κ.i] 28) ∧ E q) ∧ (w'.cell? ⟨q, 0, none⟩ = some (.int .i64 κ.g) ∧ w'.cell? ⟨q, 1, none⟩ = some (.int .i64 κ.n) ∧ w'.cell? ⟨q, 2, none⟩ = some (.int .i64 κ.i) ∧ w'.cell? ⟨b, o + j * 7 + 5, none⟩ = some (.int .i64 dv))) := by
                    refine Calls.mono ((hV5.later hD5).put κ df dv f0 f8) ?_
                    rintro e w' ⟨r1, r2, r3⟩
                    have hx := r3.old (show W5.drew.heap[q]? = _ from HX5.out) (fun e => e.2 hq2)
                    obtain ⟨y0, y1, y2⟩ := cells_three hx
                    exact ⟨r1, ⟨_, _, _, _, _, by omega, r2, hx, hq2⟩, y0, y1, y2, (HIN.out _ r2.h.b).2.2.2.2.2⟩
                  obtain ⟨y0, y1, y2⟩ := cells_three hx2
                  have y5 := (HIN.out _ hV2.h.b).2.2.2.2.2
                  have s0 : wc.drew.cell? ⟨q, 0, none⟩ = some (.int .i64 κ.g) ∧ wc.drew.cell? ⟨q, 1, none⟩ = some (.int .i64 κ.n) ∧ wc.drew.cell? ⟨q, 2, none⟩ = some (.int .i64 κ.i) ∧ wc.drew.cell? ⟨b, o + j * 7 + 5, none⟩ = some (.int .i64 dv) := ⟨y0, y1, y2, y5⟩
                  obtain ⟨u0, u1, u2⟩ := cells_three hx5
                  have s5 : W5.drew.cell? ⟨q, 0, none⟩ = some (.int .i64 κ.g) ∧ W5.drew.cell? ⟨q, 1, none⟩ = some (.int .i64 κ.n) ∧ W5.drew.cell? ⟨q, 2, none⟩ = some (.int .i64 κ.i) ∧ W5.drew.cell? ⟨b, o + j * 7 + 5, none⟩ = some (.int .i64 dv) := ⟨u0, u1, u2, (HIN.out _ hV5.h.b).2.2.2.2.2⟩
                  have s5w : W5.cell? ⟨q, 0, none⟩ = some (.int .i64 κ.g) ∧ W5.cell? ⟨q, 1, none⟩ = some (.int .i64 κ.n) ∧ W5.cell? ⟨q, 2, none⟩ = some (.int .i64 κ.i) ∧ W5.cell? ⟨b, o + j * 7 + 5, none⟩ = some (.int .i64 dv) := s5
                  unfold k3E at lk5
                  clear hV2 hk2 hD hVd hV5 hst5 hx5 hD5 y0 y1 y2 y5 u0 u1 u2
                  go_upto_region 18 with fail
                  go_cut [] from 77 to 85 (fun wx => wx = W5)
                  case first =>
                    go_region_held3 (fun w' => w'.cell? ⟨q, 0, none⟩ = some (.int .i64 κ.g) ∧ w'.cell? ⟨q, 1, none⟩ = some (.int .i64 κ.n) ∧ w'.cell? ⟨q, 2, none⟩ = some (.int .i64 κ.i) ∧ w'.cell? ⟨b, o + j * 7 + 5, none⟩ = some (.int .i64 dv)) (first | with_reducible exact s0 | with_reducible exact s5w | go_keep) (fail)
                    all_goals
                      go_wp2
                      go_meet
                      case rel => exact rfl
                  case rest =>
                    subst hcut
                    clear lk5 up5 s0 hx2
                    go_upto_region 19 with fail
                    go_region_held3 (fun w' => w'.cell? ⟨q, 0, none⟩ = some (.int .i64 κ.g) ∧ w'.cell? ⟨q, 1, none⟩ = some (.int .i64 κ.n) ∧ w'.cell? ⟨q, 2, none⟩ = some (.int .i64 κ.i) ∧ w'.cell? ⟨b, o + j * 7 + 5, none⟩ = some (.int .i64 dv)) (first | with_reducible exact s5 | with_reducible exact s1) ((go_at_call 6; with_reducible refine HP.out.mono ?_; rintro e w4 ⟨rfl, H4, s1⟩))
                    all_goals
                      go_wp2
                      go_meet
                      case rel => exact H4
          case rest =>
            clear HDF
            obtain ⟨E2, f2, N2, l2, c2, hN2, hV2, hx2, hq2⟩ := hcut.out
            have HV2 := hide hV2
            have HX2 := hide hx2
            have HQ2 := hide hq2
            clear hcut hV2 hx2 hq2 HV1 HX1 HQ HIB lk lki him hmo hmx hwas x0 x1 x2 z0 z1 z2 z3 z4 z5
            obtain ⟨rg, hit⟩ := Itr.start undMM HV2.out.m
            have hbi := below_alloc wc (.mapIter (some r) c2 #[] c2) wc.heap.size (Nat.le_refl _)
            have HVi := hide (HV2.out.fence hbi)
            have HXi := hide (boxed_old HX2.out hbi)
            have HIT := hide hit
            obtain ⟨gi, hgi⟩ : ∃ gi, gi = wc.heap.size := ⟨_, rfl⟩
            have hgr : gi ≠ r := by have := HV2.out.m.lt; omega
            obtain ⟨E3, hE3⟩ : ∃ E3 : Nat → Prop, E3 = (fun k => E2 k ∨ (wc.heap.size ≤ k ∧ k < (wc.alloc (.mapIter (some r) c2 #[] c2)).heap.size)) := ⟨_, rfl⟩
            rw [← hE3] at HVi
            have HEI : Hid (E3 gi ∧ E3 q) := by
              rw [hE3]
              exact ⟨Or.inr ⟨by omega, by simp; omega⟩, Or.inl HQ2.out⟩
            clear hE3
            rw [← hgi] at HIT rg
            have hqgi : q ≠ gi := by have := lt_of_heap HX2.out; omega
            clear hit hbi HV2 HX2 HQ2
            go_wp2
            clear rg
            generalize wc.alloc (.mapIter (some r) c2 #[] c2) = W6 at *
            rw [← hgi]
            clear hgi
            go_loopg [13] l2.length (fun gm vn wr => ∃ (todo : List (Ent K3)) (n : Nat), gm = todo.length ∧ vn = .int .i64 n ∧ n + cntD f2 todo = cntD f2 l2 ∧ n ≤ l2.length ∧ Hid (Itr k3E wr gi r l2 todo c2) ∧ Hid (∀ x ∈ todo, x ∈ l2) ∧ Hid (DA w wr g r E3 f2 f2 N2 l2 c2) ∧ Hid (wr.heap[q]? = some (.cells #[.int .i64 κ.g, .int .i64 κ.n, .int .i64 κ.i] 28)))
            case atStart => exact ⟨l2, 0, rfl, rfl, by omega, by omega, HIT, fun x hx => hx, HVi, HXi⟩
            case round =>
              clear HIT HVi HXi
              obtain ⟨todo, nn, rfl, rfl, hcn, hnl, HI, HSUB, HA, HX⟩ := hrel
              rcases HI.out.next hgr 0 with ⟨htd, nx⟩ | ⟨x, hx, W', todo', nx, en, hit', hp, hg⟩
              · subst htd
                have hcn' : nn = cntD f2 l2 := by have e : cntD f2 [] = 0 := rfl; omega
                have hnf : nn ≤ 61 := by have := HA.out.few; omega
                obtain ⟨z, hz⟩ : ∃ z, f2 κ = z := ⟨_, rfl⟩
                have HZ := hide hz
                have hzl : z.length ≤ 8 := by rw [← hz]; exact (HA.out.okm κ).le
                have hD := (Below.refl wr.heap.size wr).drew
                have HC : Hid (Calls Tryz.prog 8 #[.pointer (some ⟨g, 0, none⟩)] wr.drew fun e w' => ∃ pk qk, e = .returned (.slice pk nn qk) ∧ (w'.cell? ⟨q, 0, none⟩ = some (.int .i64 κ.g) ∧ w'.cell? ⟨q, 1, none⟩ = some (.int .i64 κ.n) ∧ w'.cell? ⟨q, 2, none⟩ = some (.int .i64 κ.i)) ∧ Hid (Calls Tryz.prog 9 #[.pointer (some ⟨g, 0, none⟩), .agg #[.int .i64 κ.g, .int .i64 κ.n, .int .i64 κ.i]] w' fun e w'' => ∃ pg cg, e = .returned (.slice pg z.length cg) ∧ (w''.cell? ⟨q, 0, none⟩ = some (.int .i64 κ.g) ∧ w''.cell? ⟨q, 1, none⟩ = some (.int .i64 κ.n) ∧ w''.cell? ⟨q, 2, none⟩ = some (.int .i64 κ.i)) ∧ Hid (DA w w'' g r E3 f2 f2 N2 l2 c2 ∧ w''.heap[q]? = some (.cells #[.int .i64 κ.g, .int .i64 κ.n, .int .i64 κ.i] 28) ∧ RdF w'' pg z.length cg z ∧ Calls Tryz.prog 10 #[.slice pk nn qk] w'' fun e w3 => e = .returned (.bool true) ∧ Below w''.heap.size w'' w3))) := by
                  refine Calls.mono ((HA.out.later hD).keys (by omega)) ?_
                  rintro e W7 ⟨pk, qk, ks, rfl, m1, r1, o1, b1⟩
                  have hkn : ks.length = nn := by rw [hcn']; exact HA.out.count m1 r1
                  rw [hkn]
                  have hx7 := boxed_old (show wr.drew.heap[q]? = _ from HX.out) b1
                  refine ⟨pk, qk, rfl, cells_three hx7, ?_⟩
                  have h7 := (HA.out.later hD).later b1
                  refine Calls.mono (h7.told κ) ?_
                  rintro e W8 ⟨pg, cg, rfl, rd, h8, b8⟩
                  have hx8 := boxed_old hx7 b8
                  have o8 : OwnK W8 _ (.slice pk ks.length qk) ks := own_tch (C := k3C) (S := fun _ => False) (Below.tch b8) o1 (fun _ _ e => e)
                  have hr := rising_true _ pk qk ks W8 o8 r1 (by omega)
                  rw [hkn] at hr
                  rw [hz] at rd ⊢
                  exact ⟨pg, cg, rfl, cells_three hx8, h8, hx8, rd, hr⟩
                have s0 : (wr.drew.cell? ⟨q, 0, none⟩ = some (.int .i64 κ.g) ∧ wr.drew.cell? ⟨q, 1, none⟩ = some (.int .i64 κ.n) ∧ wr.drew.cell? ⟨q, 2, none⟩ = some (.int .i64 κ.i)) := cells_three (show wr.drew.heap[q]? = _ from HX.out)
                clear HI HSUB HA HX hcn hcn' hnl hD hz
                go_upto_region 30 with fail
                go_cut [16, 17] from 118 to 122 (fun t16 t17 wx => ∃ pk qk pg cg, t16 = .slice pk nn qk ∧ t17 = .slice pg z.length cg ∧ Hid (DA w wx g r E3 f2 f2 N2 l2 c2 ∧ wx.heap[q]? = some (.cells #[.int .i64 κ.g, .int .i64 κ.n, .int .i64 κ.i] 28) ∧ RdF wx pg z.length cg z ∧ Calls Tryz.prog 10 #[.slice pk nn qk] wx fun e w3 => e = .returned (.bool true) ∧ Below wx.heap.size wx w3))
                case first =>
                  go_region_held3 (fun w' => w'.cell? ⟨q, 0, none⟩ = some (.int .i64 κ.g) ∧ w'.cell? ⟨q, 1, none⟩ = some (.int .i64 κ.n) ∧ w'.cell? ⟨q, 2, none⟩ = some (.int .i64 κ.i)) (first | with_reducible exact s0 | with_reducible exact s1 | with_reducible exact s2) (first | (go_at_call 8; with_reducible refine HC.out.mono ?_; rintro e w4 ⟨pk, qk, rfl, s1, HC2⟩) | (go_at_call 9; with_reducible refine HC2.out.mono ?_; rintro e w5 ⟨pg, cg, rfl, s2, H5⟩))
                  all_goals
                    go_wp2
                    go_meet
                    case rel => exact ⟨pk, qk, pg, cg, rfl, rfl, H5⟩
                case rest =>
                  obtain ⟨pk, qk, pg, cg, rfl, rfl, H5⟩ := hcut
                  clear HC s0 nx
                  go_wp2_with fail
                  refine H5.out.2.2.2.mono ?_
                  rintro e W8 ⟨rfl, b8⟩
                  have HA8 := hide (H5.out.1.later b8)
                  have HX8 := hide (boxed_old H5.out.2.1 b8)
                  have HR8 := hide (H5.out.2.2.1.later b8)
                  clear H5 b8
                  obtain ⟨mo, lk8, im8, _, _⟩ := HA8.out.look κ
                  unfold k3E at lk8
                  rw [HZ.out] at im8
                  have hok : OkF z := by rw [← HZ.out]; exact HA8.out.okm κ
                  have ln8 := len_im im8 hok.1
                  obtain ⟨x0, x1, x2⟩ := cells_three HX8.out
                  have HIM := hide im8
                  have HOK := hide hok
                  clear im8 hok
                  go_wp2
                  clear lk8 ln8 x0 x1 x2 HIM
                  go_loopg [143] z.length (fun gm ix wx => ∃ jj : Nat, gm = z.length - jj ∧ jj ≤ z.length ∧ ix = .int .i64 jj ∧ Hid (DA w wx g r E3 f2 f2 N2 l2 c2) ∧ Hid (wx.heap[q]? = some (.cells #[.int .i64 κ.g, .int .i64 κ.n, .int .i64 κ.i] 28)) ∧ Hid (RdF wx pg z.length cg z))
                  case atStart => exact ⟨0, rfl, by omega, rfl, HA8, HX8, HR8⟩
                  case round =>
                    clear HA8 HX8 HR8
                    obtain ⟨jj, rfl, hjj, rfl, HA, HX, HRD⟩ := hrel
                    by_cases hlt2 : jj < z.length
                    · obtain ⟨fb, fo, rfl, hcc⟩ := HRD.out.addr (by omega)
                      obtain ⟨⟨ff, fv⟩, hx⟩ : ∃ x, z[jj]? = some x := ⟨_, List.getElem?_eq_getElem hlt2⟩
                      obtain ⟨cF, cV⟩ := hcc jj _ hx
                      have hle := HRD.out.le
                      have hjc : jj < cg := by omega
                      have hfld : fldZ z ff = some fv := (fld_mem HOK.out.1 ff fv).2 (List.mem_of_getElem? hx)
                      obtain ⟨mo, lk0, im0, _, _⟩ := HA.out.look κ
                      have hlv : ∀ W, DA w W g r E3 f2 f2 N2 l2 c2 → (Instr.lookup 26 (.map (some r)) (k3E κ) false).run Tryz.prog W = .ok ((atE l2 κ).getD (.map Option.none)) W := fun W h => h.m.look k3Keyd undMM (zeroMI W) κ false
                      have hve : (atE l2 κ).getD (.map Option.none) = .map mo := by
                        have e := (hlv wr HA.out).symm.trans lk0
                        simpa using e
                      rw [hve] at hlv
                      unfold k3E at hlv
                      have lk : ∀ n, (Instr.lookup 26 (.map (some r)) (.agg #[.int .i64 κ.g, .int .i64 κ.n, .int .i64 κ.i]) false).run Tryz.prog (wr.drewN n) = .ok (.map mo) (wr.drewN n) := fun n => hlv _ (HA.out.later (below_drewN (Below.refl _ _) n))
                      clear hlv hve
                      rw [HZ.out] at im0
                      have li : ∀ n, (Instr.lookup 33 (.map mo) (.int .i64 ff) true).run Tryz.prog (wr.drewN n) = .ok (.tuple #[.int .i64 fv, .bool true]) (wr.drewN n) := fun n => by
                        have := (im0.later (W' := wr.drewN n) (fun m e => (below_drewN (Below.refl wr.heap.size wr) n).block _ (by cases e; exact im0.lt))).look ff
                        rw [hfld] at this
                        exact this
                      obtain ⟨x0, x1, x2⟩ := cells_three HX.out
                      have HN : Hid (∀ n, DA w (wr.drewN n) g r E3 f2 f2 N2 l2 c2 ∧ (wr.drewN n).heap[q]? = some (.cells #[.int .i64 κ.g, .int .i64 κ.n, .int .i64 κ.i] 28) ∧ RdF (wr.drewN n) (some ⟨fb, fo, none⟩) z.length cg z) := fun n => by
                        have hd := below_drewN (Below.refl wr.heap.size wr) n
                        exact ⟨HA.out.later hd, boxed_old HX.out hd, HRD.out.later hd⟩
                      clear hcc HA HX HRD im0 lk0
                      go_wp2
                      go_quiet (fail)
                      have HN1 := hide (HN.out nq)
                      clear HN lk li x0 x1 x2 cF cV
                      generalize wr.drewN nq = Wq at *
                      have hcells : ∀ W, RdF W (some ⟨fb, fo, none⟩) z.length cg z → ∀ i f v, z[i]? = some (f, v) → W.cell? ⟨fb, fo + i * 2, none⟩ = some (.int .i64 f) ∧ W.cell? ⟨fb, fo + i * 2 + 1, none⟩ = some (.int .i64 v) := fun W h i f v hi => by
                        obtain ⟨b', o', e, hc⟩ := h.addr (by omega)
                        cases e
                        exact hc i _ hi
                      have HCE := hide hcells
                      clear hcells
                      have hD := (Below.refl Wq.heap.size Wq).drew
                      have HC : Hid (Calls Tryz.prog 11 #[.pointer (some ⟨g, 0, none⟩), .agg #[.int .i64 κ.g, .int .i64 κ.n, .int .i64 κ.i], .int .i64 ff] Wq.drew fun e w' => e = .returned (.tuple #[.int .i64 fv, .bool true]) ∧ (w'.cell? ⟨q, 0, none⟩ = some (.int .i64 κ.g) ∧ w'.cell? ⟨q, 1, none⟩ = some (.int .i64 κ.n) ∧ w'.cell? ⟨q, 2, none⟩ = some (.int .i64 κ.i) ∧ w'.cell? ⟨fb, fo + jj * 2, none⟩ = some (.int .i64 ff)) ∧ Hid (DA w w' g r E3 f2 f2 N2 l2 c2 ∧ w'.heap[q]? = some (.cells #[.int .i64 κ.g, .int .i64 κ.n, .int .i64 κ.i] 28) ∧ RdF w' (some ⟨fb, fo, none⟩) z.length cg z)) := by
                        have h1 := (HN1.out.1.later hD).h.field κ ff
                        rw [HZ.out, hfld] at h1
                        refine Calls.mono h1 ?_
                        rintro e w' ⟨rfl, b1⟩
                        have hbb := hD.trans (b1.mono hD.size)
                        have hx1 := boxed_old HN1.out.2.1 hbb
                        have hr1 := HN1.out.2.2.later hbb
                        obtain ⟨y0, y1, y2⟩ := cells_three hx1
                        exact ⟨rfl, ⟨y0, y1, y2, (HCE.out _ hr1 jj ff fv hx).1⟩, HN1.out.1.later hbb, hx1, hr1⟩
                      have s0 : Wq.drew.cell? ⟨q, 0, none⟩ = some (.int .i64 κ.g) ∧ Wq.drew.cell? ⟨q, 1, none⟩ = some (.int .i64 κ.n) ∧ Wq.drew.cell? ⟨q, 2, none⟩ = some (.int .i64 κ.i) ∧ Wq.drew.cell? ⟨fb, fo + jj * 2, none⟩ = some (.int .i64 ff) := by
                        obtain ⟨y0, y1, y2⟩ := cells_three (show Wq.drew.heap[q]? = _ from HN1.out.2.1)
                        exact ⟨y0, y1, y2, (HCE.out _ HN1.out.2.2 jj ff fv hx).1⟩
                      have HXJ := hide hx
                      clear hD hfld hx
                      go_upto_region 37 with fail
                      go_cut [21, 22] from 159 to 168 (fun t21 t22 wx => t21 = .int .i64 fv ∧ t22 = .bool true ∧ Hid (DA w wx g r E3 f2 f2 N2 l2 c2 ∧ wx.heap[q]? = some (.cells #[.int .i64 κ.g, .int .i64 κ.n, .int .i64 κ.i] 28) ∧ RdF wx (some ⟨fb, fo, none⟩) z.length cg z))
                      case first =>
                        go_region_held3 (fun w' => w'.cell? ⟨q, 0, none⟩ = some (.int .i64 κ.g) ∧ w'.cell? ⟨q, 1, none⟩ = some (.int .i64 κ.n) ∧ w'.cell? ⟨q, 2, none⟩ = some (.int .i64 κ.i) ∧ w'.cell? ⟨fb, fo + jj * 2, none⟩ = some (.int .i64 ff)) (first | with_reducible exact s0 | with_reducible exact s1) ((go_at_call 11; with_reducible refine HC.out.mono ?_; rintro e w4 ⟨rfl, s1, H5⟩))
                        all_goals
                          go_wp2
                          go_meet
                          case rel => exact ⟨rfl, rfl, H5⟩
                      case rest =>
                        obtain ⟨rfl, rfl, H5⟩ := hcut
                        clear HC s0 HN1
                        obtain ⟨cF, cV⟩ := HCE.out _ H5.out.2.2 jj ff fv HXJ.out
                        have HF5 : Hid (∀ n, DA w (wc.drewN n) g r E3 f2 f2 N2 l2 c2 ∧ (wc.drewN n).heap[q]? = some (.cells #[.int .i64 κ.g, .int .i64 κ.n, .int .i64 κ.i] 28) ∧ RdF (wc.drewN n) (some ⟨fb, fo, none⟩) z.length cg z) := fun n => by
                          have hd := below_drewN (Below.refl wc.heap.size wc) n
                          exact ⟨H5.out.1.later hd, boxed_old H5.out.2.1 hd, H5.out.2.2.later hd⟩
                        rcases Nat.eq_zero_or_pos jj with hj0 | hj0
                        · subst hj0
                          have hnz : ¬ ((0 : Nat) : Int) > 0 := by omega
                          clear H5 HCE HXJ
                          go_upto_region 38 with fail
                          go_quiet (fail)
                          go_wp2
                          go_roundg (z.length - 1)
                          case measure => omega
                          case rel => exact ⟨1, rfl, by omega, by simp, (HF5.out _).1, (HF5.out _).2.1, (HF5.out _).2.2⟩
                        · obtain ⟨s, hs⟩ : ∃ s, jj = s + 1 := ⟨jj - 1, by omega⟩
                          have hts : (jj : Int) - 1 = (s : Int) := by omega
                          have hw : IntKind.i64.wrap (s : Int) = (s : Int) := by rw [IntKind.wrap_i64]; omega
                          have hs0 : (0 : Int) ≤ (s : Int) := by omega
                          have hsl : (s : Int) < (z.length : Int) := by omega
                          have hpos : (jj : Int) > 0 := by omega
                          have hsc : s < cg := by omega
                          have hsz : s < z.length := by omega
                          obtain ⟨⟨gf, gv⟩, hg'⟩ : ∃ x, z[s]? = some x := ⟨_, List.getElem?_eq_getElem hsz⟩
                          obtain ⟨dF, _⟩ := HCE.out _ H5.out.2.2 s gf gv hg'
                          have hrise : ¬ gf ≥ ff := by
                            have := RiseF.lt HOK.out.1 (show s < jj by omega) hg' HXJ.out
                            omega
                          clear H5 HCE HXJ hg' hs
                          go_upto_region 38 with fail
                          go_quiet (fail)
                          go_wp2
                          go_roundg (z.length - (jj + 1))
                          case measure => omega
                          case rel => exact ⟨jj + 1, rfl, by omega, by simp, (HF5.out _).1, (HF5.out _).2.1, (HF5.out _).2.2⟩
                    · obtain rfl : jj = z.length := by omega
                      have HFI : Hid (∃ E fd N l c, N ≤ j + 1 ∧ DA w wr g r E fd fd N l c) := ⟨E3, f2, N2, l2, c2, hN2, HA.out⟩
                      clear HA HX HRD
                      go_wp2
                      go_roundg (60 - (j + 1))
                      case measure => omega
                      case rel => exact ⟨j + 1, rfl, by omega, by omega, by simp, HFI⟩
              · have HA' := hide (HA.out.step HI.out hgr HEI.out.1 hg)
                obtain ⟨m, hxv, him, _, _⟩ := HA'.out.row x (HSUB.out x hx)
                obtain ⟨L, hL⟩ : ∃ L, (f2 x.k).length = L := ⟨_, rfl⟩
                have ln := len_im him (HA'.out.okm x.k).1
                rw [hL] at ln
                rw [hxv] at nx en
                have hcp := cntD_perm (fm := f2) hp
                rw [hL] at hcp
                have hlen := hp.length_eq
                rw [List.length_cons] at hlen
                have HI' := hide hit'
                have HS' : Hid (∀ y ∈ todo', y ∈ l2) := fun y hy => HSUB.out y (hp.mem_iff.2 (List.mem_cons_of_mem _ hy))
                have HX' : Hid (W'.heap[q]? = some (.cells #[.int .i64 κ.g, .int .i64 κ.n, .int .i64 κ.i] 28)) := (hg.block q (lt_of_heap HX.out) (fun e => hqgi (Option.some.inj e))).trans HX.out
                have hcl : cntD f2 l2 ≤ l2.length := List.countP_le_length
                have hfew := HA.out.few
                have hnn : nn ≤ 100 := by omega
                clear hit' hp hg HI HSUB HA HX hxv hx him
                by_cases hL0 : L = 0
                · subst hL0
                  rw [if_pos rfl] at hcp
                  go_wp2
                  go_roundg todo'.length
                  case measure => omega
                  case rel => exact ⟨todo', nn, rfl, rfl, by omega, hnl, HI', HS', HA', HX'⟩
                · rw [if_neg hL0] at hcp
                  have hpos : (0 : Int) < (L : Int) := by omega
                  go_wp2
                  go_roundg todo'.length
                  case measure => omega
                  case rel => exact ⟨todo', nn + 1, rfl, by simp, by omega, by omega, HI', HS', HA', HX'⟩
    · have hcs : (¬ j < n0) ∨ (j < n0 ∧ ¬ j < 60) := by omega
      have HFB : Hid (Below w.heap.size w wr) := by obtain ⟨E, f, N, l, c, _, hV⟩ := HV.out; exact hV.h.b
      clear hin HV HK
      rcases hcs with hh | ⟨hh, hh2⟩
      all_goals
        go_wp2
        go_ret
        exact ⟨rfl, HFB.out⟩

theorem own : ownKnob Tryz.prog.godebug = none := by kernel_rfl
theorem laidOut : laidOutB Tryz.prog = true := by kernel_rfl

set_option maxRecDepth 100000 in
theorem lifted (os : Os) (started : os.Started) (H : Type) (enc : TypeId × Value → H) :
    ReturnsInHanded {} Tryz.checked os 3 .any (Rows.dictAllSpec.pre6 enc Tryz.prog Tryz.f3 Rows.dictAllRow.domain false) (Rows.dictAllSpec.post enc Tryz.prog Tryz.f3 false true false false) := by
  refine returnsInHanded_of_change (C := Tryz.checked) own started (by kernel_rfl) Tryz.func3
    (ChangeSpec.witness6 (enc := enc) (C := Tryz.checked) false ⟨#[], #[.slice none 0 0], []⟩ 8 (by kernel_rfl) (by kernel_rfl) (by kernel_rfl) (by kernel_rfl)) ?_
  intro W base args ds gs before hval0 hW hcnd _
  have hval : ∀ (j : Nat) t v, Tryz.f3.params[j]? = some t → args[j]? = some v → Value.okWide Tryz.prog W .any base t v := hval0
  have hW' := hW
  obtain ⟨p, q, hA0, hV, rfl, hfz, hnd⟩ := hW
  have hA : DataW.TrodAll enc Tryz.prog W 0 (fun _ => true) true Tryz.f3.params.toList args.toList ds p := hA0
  rw [Tryz.params3] at hA hval
  obtain ⟨v0, vs0, d0, ds0, p0, q0, hargs, rfl, rfl, h0, r0⟩ := trodAll_cons hA
  obtain ⟨rfl, rfl, rfl⟩ := trodAll_nil r0
  obtain rfl : args = #[v0] := by cases args; simp_all
  obtain ⟨rfl, rfl⟩ := trodVars_none hV
  obtain ⟨a0, n0, c0, rfl⟩ := okWide_slice Tryz.underlying22 (hval 0 22 v0 rfl rfl)
  have k0 := h0
  have lt0 : ∀ x ∈ p0, x.block < W.heap.size := by obtain ⟨m, hm⟩ := k0; exact DataW.trod_lt m _ _ _ hm
  obtain ⟨z0, w0⟩ : ∃ ds, Kos W a0 n0 ds ∧ (∀ d ∈ ds, wfKo W d) ∧ n0 ≤ c0 ∧ c0 ≤ 9223372036854775807 := by
    obtain ⟨fuel, hf⟩ := h0
    rcases open_kops hf with hcs | ⟨x, l, c, ms, hcs, hl, hm, hM, hw⟩
    · simp [Value.cells] at hcs; obtain ⟨rfl, rfl, rfl⟩ := hcs; exact ⟨[], ⟨rfl, fun h => absurd h (Nat.lt_irrefl 0)⟩, by simp, Nat.le_refl _, by omega⟩
    · simp [Value.cells] at hcs; obtain ⟨rfl, rfl, rfl⟩ := hcs; exact ⟨ms, hM, hw, hl, by simpa [maxLen] using hm⟩
  clear hA0 hval0
  refine (walk a0 n0 c0 z0 W w0.1 w0.2.1 w0.2.2.1 w0.2.2.2).mono fun e W' ⟨he, bel⟩ => ?_
  subst he
  exact ⟨_, rfl, _, _, _, [], _, [], hW', trodAll_mk1 (shut_bool Tryz.underlying4 _), (trodAll_cons_mk (Below.trod laidOut (by kernel_rfl) (of_decide_eq_true (by kernel_rfl)) k0 bel lt0) trodAll_mk0), rfl, bel.frame _, fun h => by cases h⟩

theorem over : Rows.dictAllRow.holds Tryz.pinned (OpenSpec.ofChange Rows.dictAllSpec) :=
  OpenClaim.holds_of_wide 3 Tryz.f3 rfl rfl rfl rfl rfl rfl rfl ⟨rfl, rfl, rfl, rfl, rfl⟩ rfl rfl rfl rfl rfl (by kernel_rfl) Tryz.func3 (by kernel_rfl)
    (of_decide_eq_true (by kernel_rfl)) (by unfold Func.isWrapper; first | (rw [if_pos (by decide +kernel)]; kernel_rfl) | (rw [if_neg (by decide +kernel)]; exact ⟨rfl, rfl⟩))
    (fun os started H enc _ => lifted os started H enc)

theorem proved : Rows.DictAllSaid := over
#print axioms proved
end Go.Proofs.YtdogecaonlmalaaGreat.dictAll
