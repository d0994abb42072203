/- The statement DiskTurned: one byte of one file is another one behind a crash of a disk that is synced, and no other one, for all appends and places. -/
import Derived.Test.YtjdbkmjhjcmoaaaDskV
import Derived.Test.YtjdbkmjhjcmoaaaBegun
import Derived.Deep.CutBlock
import Derived.Deep.LoopGhost
namespace Go.Proofs.Ytjdbkmjhjcmoaaa.diskTurned
open Go.ChangeShapes Go.WideShapes Go.ChangeAt Go.RowKit Go.MapKept

set_option maxRecDepth 100000 in
set_option maxHeartbeats 4000000 in
theorem walk (a0 : Option Addr) (n0 c0 : Nat) (d0 : List Dop) (bad : Int) (w : World) (h0 : Ds w a0 n0 d0) (f0 : ∀ d ∈ d0, wfD w d) (_l0 : n0 ≤ c0) (_m0 : c0 ≤ 9223372036854775807) (wb : (Lit.int .i64 bad).wf = true) :
    Calls Try.prog 7 #[.slice a0 n0 c0, .int .i64 bad] w fun e w' => e = .returned (.bool true) ∧ Below w.heap.size w w' := by
  have H0 := hide h0
  have HF0 := hide f0
  have HW := hide wb
  have hwb := wf_i64 wb
  clear h0 f0 wb
  go_enter Try.func7, Try.ntmps7
  go_wp2_with fail
  refine (begun_true _).mono ?_
  rintro e w1 ⟨rfl, hb1⟩
  have HB1 := hide hb1
  clear hb1
  go_wp2_with fail
  refine (diskNew_any _).mono ?_
  rintro e w2 ⟨rfl, rfl⟩
  have HS0 : Hid (StD (fun k => w.heap.size ≤ k) w1.heap.size noF 0 w (w1.alloc (dObj none none (.slice none 0 0) (.slice none 0 0)))) :=
    ⟨noF, [], [], Or.inr ⟨heap_alloc_new w1 _, HB1.out.size, rfl, rfl, rfl, rfl⟩, DP.start, HB1.out.trans (below_alloc w1 _ _ HB1.out.size)⟩
  obtain ⟨g, Hg⟩ : ∃ g, Hid (g = w1.heap.size) := ⟨_, rfl⟩
  rw [← Hg.out] at HS0 ⊢
  clear HB1
  generalize w1.alloc (dObj none none (.slice none 0 0) (.slice none 0 0)) = W1 at *
  clear Hg
  go_upto_block 0 with fail
  go_cut [7] from 23 to 46 (fun _ wc => Hid (∃ k, k ≤ 15 ∧ StD (fun k => w.heap.size ≤ k) g noF k w wc))
  case first =>
    go_wp2_with fail
    go_loopg [7] 15 (fun gm ix wr => ∃ k : Nat, gm = 15 - k ∧ k ≤ n0 ∧ k ≤ 15 ∧ ix = .int .i64 k ∧ Hid (StD (fun k => w.heap.size ≤ k) g noF k w wr))
    case atStart => exact ⟨0, rfl, by omega, by omega, rfl, HS0⟩
    case round =>
      obtain ⟨k, rfl, hk, hk15, rfl, HS⟩ := hrel
      by_cases hin : k < n0 ∧ k < 15
      · obtain ⟨hlt, hlt15⟩ := hin
        have hD := H0.out.later HS.out.bel
        obtain ⟨d, hd⟩ : ∃ d, d0[k]? = some d := ⟨_, List.getElem?_eq_getElem (by rw [H0.out.1]; exact hlt)⟩
        obtain ⟨b, o, rfl, hc⟩ := hD.2 (by omega)
        obtain ⟨q0, q1, q2⟩ := hc k d hd
        have hwd := HF0.out d (List.mem_of_getElem? hd)
        have hds : d.s.size ≤ 9223372036854775807 := by simpa [maxLen] using hwd.1
        have HX : Hid (∀ t : ByteArray, t.size ≤ 40 → ∀ n : Nat, n ≤ d.n → n ≤ 40 → Calls Try.prog 18 #[.pointer (some ⟨g, 0, none⟩), .string t, .slice d.a n d.c] wr.drew fun e w' => ∃ x, e = .returned (.int .i64 x) ∧ Hid (StD (fun k => w.heap.size ≤ k) g noF (k + 1) w w' ∧ Tch (fun k => w.heap.size ≤ k) wr w')) :=
          fun t ht n hn hn4 => HS.out.step (by omega) (fun k hk => by have := HS.out.bel.size; omega) (fun k hk => hk) d hwd.2 t ht n hn hn4
        have HSH : Hid (Calls Try.prog 12 #[.slice d.a d.n d.c, .int .i64 40] wr.drew fun e w' => ∃ j, e = .returned (.slice d.a j d.c) ∧ w' = wr.drew ∧ j ≤ d.n ∧ j ≤ 40) := by
          refine (short_any d.a d.n d.c 40 40 d.z wr.drew ((hwd.2.later HS.out.bel (Nat.le_refl _)).later (Below.refl _ _).drew (Nat.le_refl _)) (by omega) rfl).mono ?_
          rintro e w' ⟨j, L, rfl, rfl, e1, e2, _, _⟩
          exact ⟨j, rfl, rfl, e1, e2⟩
        obtain ⟨dk, ds, da, dn, dc, dz, dp, dq⟩ := d
        simp only at q0 q1 q2 hds HX HSH
        clear hD hc hd hwd HS H0 HF0 HW HS0
        go_wp2
        go_region_with (first | (go_at_call 19; (refine (textD ds _ hds).mono ?_; rintro e V1 ⟨t, rfl, rfl, ht⟩)) | (go_at_call 12; (refine HSH.out.mono ?_; rintro e V2 ⟨j, rfl, rfl, hj1, hj2⟩)) | (go_at_call 18; (refine (HX.out t ht j hj1 hj2).mono ?_; rintro e V3 ⟨x, rfl, HN⟩)))
        all_goals
          go_wp2
          go_roundg (15 - (k + 1))
          case measure => omega
          case rel => exact ⟨k + 1, rfl, by omega, by omega, rfl, HN.out.1⟩
      · have hcs : (¬ k < n0) ∨ (k < n0 ∧ ¬ k < 15) := by omega
        clear hin H0 HF0 HW HS0
        rcases hcs with hh | ⟨hh, hh2⟩
        all_goals
          go_wp2_with fail
          go_meet
          case rel => exact ⟨k, hk15, HS.out⟩
  case rest =>
    obtain ⟨k, hk15, hS⟩ := hcut.out
    have HSY := hide (hS.sync hk15 (fun k hk => by have := hS.bel.size; omega) (fun k hk => hk))
    clear hS hcut HS0 H0 HF0
    go_wp2_with fail
    refine HSY.out.mono ?_
    rintro e W2 ⟨rfl, F, HY⟩
    have HCR := hide (HY.out.crash bad HW.out)
    clear HY HSY HW
    go_wp2_with fail
    refine HCR.out.mono ?_
    rintro e W3 ⟨g2, C, rfl, HT, HC⟩
    have HLI := hide HT.out.list
    clear HCR
    go_wp2_with fail
    refine HLI.out.mono ?_
    rintro e W4 ⟨v, ns, rfl, hns, hown, hnl, hb4⟩
    have HT4 := hide (HT.out.later hb4)
    have HLK := hide (HC.out.like ns hns)
    have HNS := hide hns
    have HO := hide hown
    obtain ⟨pa, nc, rfl, _⟩ := hown.cells
    have HTT : Hid (∀ j, totF F ns j ≤ 15000) := fun j => by
      have h1 := totF_le F 1000 HT4.out.2.2.1 ns j
      have h2 : 1000 * ns.length ≤ 15000 := by omega
      omega
    have HZ : Hid (totF F ns 0 = 0 ∧ cntB bad 0 = 0 ∧ whichB bad 0 = -1) := by
      refine ⟨by simp [totF], ?_, ?_⟩
      · unfold cntB; rw [if_neg (by omega)]
      · unfold whichB; rw [if_neg (by omega)]
    clear hns hown hb4 HLI HT HC
    go_wp2
    go_loopw [9, 10, 11, 55] (fun vn va vt ix wr => ∃ (j p cn : Nat) (wt : Int), j ≤ ns.length ∧ p ≤ 15000 ∧ cn ≤ 1 ∧ ix = .int .i64 j ∧ vn = .int .i64 (cn : Int) ∧ va = .int .i64 (p : Int) ∧ vt = .int .i64 wt ∧ Hid (p = totF F ns j ∧ cn = cntB bad p ∧ wt = whichB bad p) ∧ Hid (Two g g2 F C w wr) ∧ Hid (OwnS wr 0 (.slice pa ns.length nc) ns)) (fun _ _ _ ix _ => ns.length - (intOf ix).toNat)
    case atStart => exact ⟨0, 0, 0, -1, by omega, by omega, by omega, rfl, rfl, rfl, rfl, ⟨HZ.out.1.symm, HZ.out.2.1.symm, HZ.out.2.2.symm⟩, HT4, HO⟩
    case round =>
      obtain ⟨j, p, cn, wt, hj, hp15, hcn1, rfl, rfl, rfl, rfl, HP, HT, HO⟩ := hrel
      by_cases hlt : j < ns.length
      · obtain ⟨s, hs⟩ : ∃ s, ns[j]? = some s := ⟨_, List.getElem?_eq_getElem hlt⟩
        obtain ⟨pa', c', e, hc⟩ := HO.out.cells
        obtain ⟨rfl, rfl⟩ : pa = pa' ∧ nc = c' := by simpa using e
        obtain ⟨gn, rfl, _, _, hcell⟩ := hc (by omega)
        have cs := hcell j s hs
        obtain ⟨z, hz⟩ : ∃ z, F s = some z := by
          have := (HNS.out.2.1 s).1 (List.mem_of_getElem? hs)
          cases hF : F s with
          | none => exact absurd hF this
          | some z => exact ⟨z, rfl⟩
        obtain ⟨y, hy, hyl, hyk⟩ := HLK.out j s z hs hz
        have HR1 := hide (HT.out.read1 s z hz)
        have HY := hide hy
        have HYL := hide hyl
        have HYK := hide hyk
        have htot : totF F ns (j + 1) = totF F ns j + z.length := by rw [totF_succ F ns j s hs, lenF, hz]; rfl
        have HT1 := hide (And.intro htot (And.intro (HTT.out j) (HTT.out (j + 1))))
        clear hc hcell e hs hy hyl hyk hz HT4 htot
        go_wp2_with fail
        refine HR1.out.mono ?_
        rintro e W5 ⟨xa, xc, rfl, HB5, HL5⟩
        have HT5 := hide (HT.out.later HL5.out)
        have HO5 := hide (HO.out.later HL5.out)
        have HR2 := hide (HT5.out.read2 s y HY.out)
        rw [HYL.out] at HR2
        clear HT HO HR1 cs HL5
        obtain ⟨zn, Hzn⟩ : ∃ zn, Hid (zn = z.length) := ⟨_, rfl⟩
        rw [← Hzn.out] at HB5 HR2 HT1 HYK ⊢
        go_wp2_with fail
        refine HR2.out.mono ?_
        rintro e W6 ⟨ya, yc, rfl, HB6, HL6⟩
        have HT6 := hide (HT5.out.later HL6.out)
        have HO6 := hide (HO5.out.later HL6.out)
        have HBX := hide (HB5.out.later HL6.out (Nat.le_refl _))
        have HXR : Hid (∀ k, 0 ≤ z.getD k 0 ∧ z.getD k 0 ≤ 255) := fun k => by
          rw [List.getD_eq_getElem?_getD]
          cases hk : z[k]? with
          | none => simp
          | some x => exact HBX.out.2.2.2.2.2 x (List.mem_of_getElem? hk)
        have hzn : zn ≤ 15000 := by have := HT1.out; omega
        clear HT5 HO5 HR2 HB5 HL6 HY HLK HTT HZ HYL
        go_wp2
        go_loopw [9, 10, 11, 82] (fun vn va vt ik wi => ∃ (k q cn : Nat) (wt : Int), k ≤ zn ∧ q ≤ 30000 ∧ cn ≤ 1 ∧ ik = .int .i64 k ∧ vn = .int .i64 (cn : Int) ∧ va = .int .i64 (q : Int) ∧ vt = .int .i64 wt ∧ Hid (q = totF F ns j + k ∧ cn = cntB bad q ∧ wt = whichB bad q) ∧ Hid (Below W6.heap.size W6 wi)) (fun _ _ _ ik _ => zn - (intOf ik).toNat)
        case atStart => exact ⟨0, p, cn, wt, by omega, by omega, hcn1, rfl, rfl, rfl, rfl, ⟨HP.out.1, HP.out.2.1, HP.out.2.2⟩, Below.refl _ _⟩
        case round =>
          obtain ⟨k, q, cn', wt', hk, hq, hcn', rfl, rfl, rfl, rfl, HQ, HB⟩ := hrel
          by_cases hlk : k < zn
          · obtain ⟨xb, xo, rfl, hxc⟩ := (HBX.out.later HB.out (Nat.le_refl _)).2.2.2.2.1 (by omega)
            obtain ⟨yb, yo, rfl, hyc⟩ := (HB6.out.later HB.out (Nat.le_refl _)).2.2.2.2.1 (by omega)
            have cx := hxc k hlk
            have cy := hyc k hlk
            have hxr := HXR.out k
            have hyv := HYK.out k hlk
            have hx2 := HBX.out.2.1
            have hx3 := HBX.out.2.2.1
            have hy2 := HB6.out.2.1
            have hy3 := HB6.out.2.2.1
            rw [hyv] at cy
            clear hyv hxc hyc
            by_cases hp : ((totF F ns j + k : Nat) : Int) = bad
            · rw [if_pos hp] at cy
              obtain ⟨f1, f2, f3⟩ := flip_ok _ hxr
              have hxo := xor_flip _ hxr
              have hne : (z.getD k 0 != flipB (z.getD k 0)) = true := by simp; exact fun e => f3 e.symm
              have hN := cntB_next bad (totF F ns j + k) hp
              have HN : Hid (cn' = 0 ∧ q + 1 = totF F ns j + (k + 1) ∧ 1 = cntB bad (q + 1) ∧ (q : Int) = whichB bad (q + 1)) := by
                obtain ⟨e1, e2, e3⟩ := HQ.out
                refine ⟨by rw [e2, e1]; exact hN.1, by omega, by rw [e1]; exact hN.2.1.symm, by rw [e1]; exact hN.2.2.symm⟩
              have hc0 := HN.out.1
              subst hc0
              generalize flipB (z.getD k 0) = yv at *
              generalize z.getD k 0 = xv at *
              clear hp hN HQ f3
              go_wp2
              go_quiet (fail)
              go_wp2
              go_quiet (fail)
              go_wp2
              exact ⟨⟨k + 1, q + 1, 1, (q : Int), by omega, by have := HT1.out; have := HN.out.2.1; omega, by omega, rfl, rfl, rfl, rfl, ⟨HN.out.2.1, HN.out.2.2.1, HN.out.2.2.2⟩, below_drewN HB.out _⟩, by simp [intOf]; omega⟩
            · rw [if_neg hp] at cy
              have hS := cntB_same bad (totF F ns j + k) hp
              have HN : Hid (q + 1 = totF F ns j + (k + 1) ∧ cn' = cntB bad (q + 1) ∧ wt' = whichB bad (q + 1)) := by
                obtain ⟨e1, e2, e3⟩ := HQ.out
                exact ⟨by omega, by rw [e1, hS.1, ← e1]; exact e2, by rw [e1, hS.2, ← e1]; exact e3⟩
              generalize z.getD k 0 = xv at *
              clear hp hS HQ
              go_wp2
              go_quiet (fail)
              go_wp2
              exact ⟨⟨k + 1, q + 1, cn', wt', by omega, by have := HT1.out; have := HN.out.1; omega, by omega, rfl, rfl, rfl, rfl, ⟨HN.out.1, HN.out.2.1, HN.out.2.2⟩, below_drewN HB.out _⟩, by simp [intOf]; omega⟩
          · have HE : Hid (q = totF F ns (j + 1) ∧ cn' = cntB bad q ∧ wt' = whichB bad q) := by
              obtain ⟨e1, e2, e3⟩ := HQ.out
              exact ⟨by rw [HT1.out.1]; omega, e2, e3⟩
            have hq15 : q ≤ 15000 := by have := HT1.out; have := HE.out.1; omega
            have HT7 := hide (HT6.out.later HB.out)
            have HO7 := hide (HO6.out.later HB.out)
            clear HQ HT6 HO6 HB HBX HB6 HYK HXR
            go_wp2
            exact ⟨⟨j + 1, q, cn', wt', by omega, hq15, hcn', rfl, rfl, rfl, rfl, HE, HT7, HO7⟩, by simp [intOf]; omega⟩
      · have HBE := hide HT.out.2.2.2.2.2
        have HE := HP.out.2
        clear HT HO HP HNS HLK HTT HZ HT4
        by_cases hb0 : bad < 0
        · have d0 : decide (bad < 0) = true := by simp [hb0]
          have hc0 : cn = 0 := by rw [HE.1, cntB, if_neg (by omega)]
          subst hc0
          clear HE
          go_wp2
          go_ret
          exact ⟨rfl, HBE.out⟩
        · have d0 : decide (bad < 0) = false := by simp; omega
          by_cases hbp : bad < (p : Int)
          · have d1 : decide (bad ≥ (p : Int)) = false := by simp; omega
            have hc1 : cn = 1 := by rw [HE.1, cntB, if_pos (by omega)]
            have hw1 : wt = bad := by rw [HE.2, whichB, if_pos (by omega)]
            subst hc1
            subst hw1
            clear HE
            go_wp2
            go_ret
            exact ⟨rfl, HBE.out⟩
          · have d1 : decide (bad ≥ (p : Int)) = true := by simp; omega
            have hc0 : cn = 0 := by rw [HE.1, cntB, if_neg (by omega)]
            subst hc0
            clear HE
            go_wp2
            go_ret
            exact ⟨rfl, HBE.out⟩

theorem own : ownKnob Try.prog.godebug = none := by kernel_rfl
theorem laidOut : laidOutB Try.prog = true := by kernel_rfl

set_option maxRecDepth 100000 in
theorem lifted (os : Os) (started : os.Started) (H : Type) (enc : TypeId × Value → H) :
    ReturnsInHanded {} Try.checked os 7 .any (Rows.diskTurnedSpec.pre6 enc Try.prog Try.f7 Rows.diskTurnedRow.domain false) (Rows.diskTurnedSpec.post enc Try.prog Try.f7 false true false false) := by
  refine returnsInHanded_of_change (C := Try.checked) own started (by kernel_rfl) Try.func7
    (ChangeSpec.witness6 (enc := enc) (C := Try.checked) false ⟨#[], #[.slice none 0 0, .int .i64 0], []⟩ 8 (by kernel_rfl) (by kernel_rfl) (by kernel_rfl) (by kernel_rfl)) ?_
  intro W base args ds gs before hval0 hW hcnd _
  have hval : ∀ (j : Nat) t v, Try.f7.params[j]? = some t → args[j]? = some v → Value.okWide Try.prog W .any base t v := hval0
  have hW' := hW
  obtain ⟨p, q, hA0, hV, rfl, hfz, hnd⟩ := hW
  have hA : DataW.TrodAll enc Try.prog W 0 (fun _ => true) true Try.f7.params.toList args.toList ds p := hA0
  rw [Try.params7] at hA hval
  obtain ⟨v0, vs0, d0, ds0, p0, q0, hargs, rfl, rfl, h0, r0⟩ := trodAll_cons hA
  obtain ⟨v1, vs1, d1, ds1, p1, q1, rfl, rfl, rfl, h1, r1⟩ := trodAll_cons r0
  obtain ⟨rfl, rfl, rfl⟩ := trodAll_nil r1
  obtain rfl : args = #[v0, v1] := by cases args; simp_all
  obtain ⟨rfl, rfl⟩ := trodVars_none hV
  obtain ⟨a0, n0, c0, rfl⟩ := okWide_slice Try.underlying40 (hval 0 40 v0 rfl rfl)
  have k0 := h0
  have lt0 : ∀ x ∈ p0, x.block < W.heap.size := by obtain ⟨m, hm⟩ := k0; exact DataW.trod_lt m _ _ _ hm
  obtain ⟨z0, w0⟩ : ∃ ds, Ds W a0 n0 ds ∧ (∀ d ∈ ds, wfD W d) ∧ n0 ≤ c0 ∧ c0 ≤ 9223372036854775807 := by
    obtain ⟨fuel, hf⟩ := h0
    rcases open_dops hf with hcs | ⟨x, l, c, ms, hcs, hl, hm, hM, hw⟩
    · simp [Value.cells] at hcs; obtain ⟨rfl, rfl, rfl⟩ := hcs; exact ⟨[], ⟨rfl, fun h => absurd h (Nat.lt_irrefl 0)⟩, by simp, Nat.le_refl _, by omega⟩
    · simp [Value.cells] at hcs; obtain ⟨rfl, rfl, rfl⟩ := hcs; exact ⟨ms, hM, hw, hl, by simpa [maxLen] using hm⟩
  obtain ⟨a1, rfl, rfl, rfl, w1⟩ := open_int Try.underlying3 (hval 1 3 v1 rfl rfl) h1
  clear hA0 hval0
  refine (walk a0 n0 c0 z0 a1 W w0.1 w0.2.1 w0.2.2.1 w0.2.2.2 w1).mono fun e W' ⟨he, bel⟩ => ?_
  subst he
  exact ⟨_, rfl, _, _, _, [], _, [], hW', trodAll_mk1 (shut_bool Try.underlying4 _), (trodAll_cons_mk (Below.trod laidOut (by kernel_rfl) (of_decide_eq_true (by kernel_rfl)) k0 bel lt0) (trodAll_cons_mk (shut_int Try.underlying3 w1) trodAll_mk0)), rfl, bel.frame _, fun h => by cases h⟩

theorem over : Rows.diskTurnedRow.holds Try.pinned (OpenSpec.ofChange Rows.diskTurnedSpec) :=
  OpenClaim.holds_of_wide 7 Try.f7 rfl rfl rfl rfl rfl rfl rfl ⟨rfl, rfl, rfl, rfl, rfl⟩ rfl rfl rfl rfl rfl (by kernel_rfl) Try.func7 (by kernel_rfl)
    (of_decide_eq_true (by kernel_rfl)) (by unfold Func.isWrapper; first | (rw [if_pos (by decide +kernel)]; kernel_rfl) | (rw [if_neg (by decide +kernel)]; exact ⟨rfl, rfl⟩))
    (fun os started H enc _ => lifted os started H enc)

theorem proved : Rows.DiskTurnedSaid := over
#print axioms proved
end Go.Proofs.Ytjdbkmjhjcmoaaa.diskTurned
