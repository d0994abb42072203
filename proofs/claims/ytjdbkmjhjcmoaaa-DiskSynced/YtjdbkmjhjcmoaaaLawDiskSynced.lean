/- The statement DiskSynced: what was synced is there behind any crash, if nothing was cut or dropped since, for all appends. -/
import Derived.Test.YtjdbkmjhjcmoaaaDskL
import Derived.Test.YtjdbkmjhjcmoaaaBegun
import Derived.Deep.CutBlock
import Derived.Deep.LoopGhost
namespace Go.Proofs.Ytjdbkmjhjcmoaaa.diskSynced
open Go.ChangeShapes Go.WideShapes Go.ChangeAt Go.RowKit Go.MapKept

set_option maxRecDepth 100000 in
set_option maxHeartbeats 4000000 in
theorem walk (a0 : Option Addr) (n0 c0 : Nat) (d0 : List Dop) (a1 : Option Addr) (n1 c1 : Nat) (d1 : List Dop) (kept : Int) (w : World) (h0 : Ds w a0 n0 d0) (f0 : ∀ d ∈ d0, wfD w d) (_l0 : n0 ≤ c0) (_m0 : c0 ≤ 9223372036854775807) (h1 : Ds w a1 n1 d1) (f1 : ∀ d ∈ d1, wfD w d) (_l1 : n1 ≤ c1) (_m1 : c1 ≤ 9223372036854775807) (wk : (Lit.int .i64 kept).wf = true) :
    Calls Try.prog 6 #[.slice a0 n0 c0, .slice a1 n1 c1, .int .i64 kept] w fun e w' => e = .returned (.bool true) ∧ Below w.heap.size w w' := by
  have H0 := hide h0
  have H1 := hide h1
  have HF0 := hide f0
  have HF1 := hide f1
  have HW := hide wk
  clear h0 h1 f0 f1 wk
  go_enter Try.func6, Try.ntmps6
  go_wp2_with fail
  refine (begun_true _).mono ?_
  rintro e w1 ⟨rfl, hb1⟩
  have HB1 := hide hb1
  clear hb1
  go_wp2_with fail
  refine (diskNew_any _).mono ?_
  rintro e w2 ⟨rfl, rfl⟩
  have HS0 : Hid (StD (fun k => w.heap.size ≤ k) w1.heap.size noF 0 w (w1.alloc (dObj none none (.slice none 0 0) (.slice none 0 0)))) :=
    ⟨noF, [], [], Or.inr ⟨heap_alloc_new w1 _, HB1.out.size, rfl, rfl, rfl, rfl⟩, DP.start, HB1.out.trans (below_alloc w1 _ _ HB1.out.size)⟩
  obtain ⟨g, Hg⟩ : ∃ g, Hid (g = w1.heap.size) := ⟨_, rfl⟩
  rw [← Hg.out] at HS0 ⊢
  clear HB1
  generalize w1.alloc (dObj none none (.slice none 0 0) (.slice none 0 0)) = W1 at *
  clear Hg
  go_upto_block 0 with fail
  go_cut [9] from 31 to 60 (fun _ wc => Hid (∃ k, k ≤ 15 ∧ StD (fun k => w.heap.size ≤ k) g noF k w wc))
  case first =>
    go_wp2_with fail
    go_loopg [9] 15 (fun gm ix wr => ∃ k : Nat, gm = 15 - k ∧ k ≤ n0 ∧ k ≤ 15 ∧ ix = .int .i64 k ∧ Hid (StD (fun k => w.heap.size ≤ k) g noF k w wr))
    case atStart => exact ⟨0, rfl, by omega, by omega, rfl, HS0⟩
    case round =>
      obtain ⟨k, rfl, hk, hk15, rfl, HS⟩ := hrel
      by_cases hin : k < n0 ∧ k < 15
      · obtain ⟨hlt, hlt15⟩ := hin
        have hD := H0.out.later HS.out.bel
        obtain ⟨d, hd⟩ : ∃ d, d0[k]? = some d := ⟨_, List.getElem?_eq_getElem (by rw [H0.out.1]; exact hlt)⟩
        obtain ⟨b, o, rfl, hc⟩ := hD.2 (by omega)
        obtain ⟨q0, q1, q2⟩ := hc k d hd
        have hwd := HF0.out d (List.mem_of_getElem? hd)
        have hds : d.s.size ≤ 9223372036854775807 := by simpa [maxLen] using hwd.1
        by_cases hkind : d.k = 0
        · have kb : (d.k == 0) = true := by simp [hkind]
          have HX : Hid (∀ t : ByteArray, t.size ≤ 40 → ∀ n : Nat, n ≤ d.n → n ≤ 40 → Calls Try.prog 18 #[.pointer (some ⟨g, 0, none⟩), .string t, .slice d.a n d.c] wr.drew fun e w' => ∃ x, e = .returned (.int .i64 x) ∧ Hid (StD (fun k => w.heap.size ≤ k) g noF (k + 1) w w' ∧ Tch (fun k => w.heap.size ≤ k) wr w')) :=
            fun t ht n hn hn4 => HS.out.step (by omega) (fun k hk => by have := HS.out.bel.size; omega) (fun k hk => hk) d hwd.2 t ht n hn hn4
          have HSH : Hid (Calls Try.prog 12 #[.slice d.a d.n d.c, .int .i64 40] wr.drew fun e w' => ∃ j, e = .returned (.slice d.a j d.c) ∧ w' = wr.drew ∧ j ≤ d.n ∧ j ≤ 40) := by
            refine (short_any d.a d.n d.c 40 40 d.z wr.drew ((hwd.2.later HS.out.bel (Nat.le_refl _)).later (Below.refl _ _).drew (Nat.le_refl _)) (by omega) rfl).mono ?_
            rintro e w' ⟨j, L, rfl, rfl, e1, e2, _, _⟩
            exact ⟨j, rfl, rfl, e1, e2⟩
          obtain ⟨dk, ds, da, dn, dc, dz, dp, dq⟩ := d
          simp only at q0 q1 q2 hds kb HX HSH
          clear hD hc hd hwd hkind HS H0 H1 HF0 HF1 HW HS0
          go_wp2
          go_region_with (first | (go_at_call 19; (refine (textD ds _ hds).mono ?_; rintro e V1 ⟨t, rfl, rfl, ht⟩)) | (go_at_call 12; (refine HSH.out.mono ?_; rintro e V2 ⟨j, rfl, rfl, hj1, hj2⟩)) | (go_at_call 18; (refine (HX.out t ht j hj1 hj2).mono ?_; rintro e V3 ⟨x, rfl, HN⟩)))
          all_goals
            go_wp2
            go_roundg (15 - (k + 1))
            case measure => omega
            case rel => exact ⟨k + 1, rfl, by omega, by omega, rfl, HN.out.1⟩
        · have kb : (d.k == 0) = false := by simp [hkind]
          have HN := hide HS.out.skip
          obtain ⟨dk, ds, da, dn, dc, dz, dp, dq⟩ := d
          simp only at q0 q1 q2 kb
          clear hD hc hd hwd hkind HS H0 H1 HF0 HF1 HW HS0
          go_wp2
          go_roundg (15 - (k + 1))
          case measure => omega
          case rel => exact ⟨k + 1, rfl, by omega, by omega, rfl, HN⟩
      · have hcs : (¬ k < n0) ∨ (k < n0 ∧ ¬ k < 15) := by omega
        clear hin H0 H1 HF0 HF1 HW HS0
        rcases hcs with hh | ⟨hh, hh2⟩
        all_goals
          go_wp2_with fail
          go_meet
          case rel => exact ⟨k, hk15, HS.out⟩
  case rest =>
        obtain ⟨k, hk15, hS⟩ := hcut.out
        have HSY := hide (hS.sync hk15 (fun k hk => by have := hS.bel.size; omega) (fun k hk => hk))
        have hmm := @run_makeMap Try.prog
        clear hS hcut HS0 H0 HF0
        go_wp2_with fail
        refine HSY.out.mono ?_
        rintro e W2 ⟨rfl, F, HY⟩
        have hrs := HY.out.2.2.size
        have hY2 : Syn (fun k => w.heap.size ≤ k ∧ k ≠ W2.heap.size) g F w (W2.alloc (.map #[] 0)) := (HY.out.narrow (fun k hk hO => ⟨hO, by omega⟩)).later (below_alloc W2 _ _ (Nat.le_refl _))
        have HTD := hide (told_new W2 F)
        have HLS := hide (list_s _ g 15 F F [] [] _ hY2.1 hY2.2.1.namN (by omega))
        have HFC : Hid (capF F 1000) := HY.out.2.1.capN.mono (by omega)
        have HY2 := hide hY2
        have hsz3 : (W2.alloc (.map #[] 0)).heap.size = W2.heap.size + 1 := by simp
        clear hY2 HY HSY
        go_wp2_with fail
        clear hmm
        generalize W2.alloc (.map #[] 0) = W3 at *
        obtain ⟨r, Hr⟩ : ∃ r, r = W2.heap.size := ⟨_, rfl⟩
        rw [← Hr] at HTD HY2 hsz3 hrs ⊢
        clear Hr
        refine HLS.out.mono ?_
        rintro e W4 ⟨v, ns, rfl, hns, hown, hb4⟩
        have HTL : Hid (Tell (fun k => w.heap.size ≤ k ∧ k ≠ r) g r W3.heap.size F ns v w W4) := ⟨HY2.out.later hb4, HTD.out.later hb4, hown⟩
        have HNS := hide hns
        obtain ⟨pa, nc, rfl, _⟩ := hown.cells
        have HNL : Hid (ns.length ≤ 1000) := by
          have := HY2.out.2.1.namN.few ns hns.1 (fun s hs => (hns.2.1 s).1 hs)
          show _ ≤ _
          omega
        have hnl := HNL.out
        clear hns hown hb4 HLS HY2 HTD
        go_wp2
        go_loopw [67] (fun ix wq => ∃ k2 : Nat, k2 ≤ ns.length ∧ ix = .int .i64 k2 ∧ Hid (Tell (fun k => w.heap.size ≤ k ∧ k ≠ r) g r W3.heap.size F ns (.slice pa ns.length nc) w wq)) (fun ix _ => ns.length - (intOf ix).toNat)
        case atStart => exact ⟨0, by omega, rfl, HTL⟩
        case round =>
          obtain ⟨k2, hk2, rfl, HT⟩ := hrel
          by_cases hlt2 : k2 < ns.length
          · obtain ⟨s, hs⟩ : ∃ s, ns[k2]? = some s := ⟨_, List.getElem?_eq_getElem hlt2⟩
            obtain ⟨pa', c', e, hc⟩ := HT.out.2.2.cells
            obtain ⟨rfl, rfl⟩ : pa = pa' ∧ nc = c' := by simpa using e
            obtain ⟨gn, rfl, _, _, hcell⟩ := hc (by omega)
            have cs := hcell k2 s hs
            have HST := hide (HT.out.step HNS.out (fun hO => hO.2 rfl) (by omega) (by omega) s (List.mem_of_getElem? hs))
            clear hc hcell e HT hs
            go_wp2_with fail
            refine HST.out.mono ?_
            rintro e W5 ⟨xa, xn, xc, t, W6, rfl, cv, mu, HT6⟩
            clear cs HST
            go_wp2
            exact ⟨⟨k2 + 1, by omega, rfl, HT6⟩, by simp [intOf]; omega⟩
          · have HSD := hide HT.out.1.std
            have HTD := hide HT.out.2.1
            have hrw : Hid (w.heap.size ≤ r) := hide hrs
            clear HT HTL HNS HNL
            go_upto_block 4 with fail
            go_cut [15] from 82 to 111 (fun _ wc => Hid (∃ k3, k3 ≤ 15 ∧ StD (fun k => w.heap.size ≤ k ∧ k ≠ r) g F (15 + k3) w wc ∧ Told wc r F))
            case first =>
              go_wp2_with fail
              go_loopg [15] 15 (fun gm ix wr => ∃ k3 : Nat, gm = 15 - k3 ∧ k3 ≤ n1 ∧ k3 ≤ 15 ∧ ix = .int .i64 k3 ∧ Hid (StD (fun k => w.heap.size ≤ k ∧ k ≠ r) g F (15 + k3) w wr) ∧ Hid (Told wr r F))
              case atStart => exact ⟨0, rfl, by omega, by omega, rfl, HSD, HTD⟩
              case round =>
                obtain ⟨k3, rfl, hk3, hk35, rfl, HS, HT⟩ := hrel
                have hrl : r < wr.heap.size := by
                  obtain ⟨_, _, hm, _⟩ := HT.out
                  exact hm.lt
                by_cases hin : k3 < n1 ∧ k3 < 15
                · obtain ⟨hlt, hlt15⟩ := hin
                  have hD := H1.out.later HS.out.bel
                  obtain ⟨d, hd⟩ : ∃ d, d1[k3]? = some d := ⟨_, List.getElem?_eq_getElem (by rw [H1.out.1]; exact hlt)⟩
                  obtain ⟨b, o, rfl, hc⟩ := hD.2 (by omega)
                  obtain ⟨q0, q1, q2⟩ := hc k3 d hd
                  have hwd := HF1.out d (List.mem_of_getElem? hd)
                  have hds : d.s.size ≤ 9223372036854775807 := by simpa [maxLen] using hwd.1
                  by_cases hkind : d.k = 0
                  · have kb : (d.k == 0) = true := by simp [hkind]
                    have HX : Hid (∀ t : ByteArray, t.size ≤ 40 → ∀ n : Nat, n ≤ d.n → n ≤ 40 → Calls Try.prog 18 #[.pointer (some ⟨g, 0, none⟩), .string t, .slice d.a n d.c] wr.drew fun e w' => ∃ x, e = .returned (.int .i64 x) ∧ Hid (StD (fun k => w.heap.size ≤ k ∧ k ≠ r) g F (15 + (k3 + 1)) w w') ∧ Hid (Told w' r F)) := by
                      intro t ht n hn hn4
                      refine (HS.out.step (by omega) (fun k hk => by have := HS.out.bel.size; exact ⟨by omega, by omega⟩) (fun k hk => hk.1) d hwd.2 t ht n hn hn4).mono ?_
                      rintro e w' ⟨x, rfl, hN⟩
                      exact ⟨x, rfl, hN.out.1, HT.out.tch hN.out.2 (fun hO => hO.2 rfl)⟩
                    have HSH : Hid (Calls Try.prog 12 #[.slice d.a d.n d.c, .int .i64 40] wr.drew fun e w' => ∃ j, e = .returned (.slice d.a j d.c) ∧ w' = wr.drew ∧ j ≤ d.n ∧ j ≤ 40) := by
                      refine (short_any d.a d.n d.c 40 40 d.z wr.drew ((hwd.2.later HS.out.bel (Nat.le_refl _)).later (Below.refl _ _).drew (Nat.le_refl _)) (by omega) rfl).mono ?_
                      rintro e w' ⟨j, L, rfl, rfl, e1, e2, _, _⟩
                      exact ⟨j, rfl, rfl, e1, e2⟩
                    obtain ⟨dk, ds, da, dn, dc, dz, dp, dq⟩ := d
                    simp only at q0 q1 q2 hds kb HX HSH
                    clear hD hc hd hwd hkind HS HT HSD HTD H1 HF1 HW hrw HFC
                    go_wp2
                    go_region_with (first | (go_at_call 19; (refine (textD ds _ hds).mono ?_; rintro e V1 ⟨t, rfl, rfl, ht⟩)) | (go_at_call 12; (refine HSH.out.mono ?_; rintro e V2 ⟨j, rfl, rfl, hj1, hj2⟩)) | (go_at_call 18; (refine (HX.out t ht j hj1 hj2).mono ?_; rintro e V3 ⟨x, rfl, HN, HM⟩)))
                    all_goals
                      go_wp2
                      go_roundg (15 - (k3 + 1))
                      case measure => omega
                      case rel => exact ⟨k3 + 1, rfl, by omega, by omega, rfl, HN, HM⟩
                  · have kb : (d.k == 0) = false := by simp [hkind]
                    have HN : Hid (StD (fun k => w.heap.size ≤ k ∧ k ≠ r) g F (15 + (k3 + 1)) w wr) := HS.out.skip
                    obtain ⟨dk, ds, da, dn, dc, dz, dp, dq⟩ := d
                    simp only at q0 q1 q2 kb
                    clear hD hc hd hwd hkind HS HSD HTD H1 HF1 HW hrw HFC
                    go_wp2
                    go_roundg (15 - (k3 + 1))
                    case measure => omega
                    case rel => exact ⟨k3 + 1, rfl, by omega, by omega, rfl, HN, HT⟩
                · have hcs : (¬ k3 < n1) ∨ (k3 < n1 ∧ ¬ k3 < 15) := by omega
                  clear hin HSD HTD H1 HF1 HW HFC
                  rcases hcs with hj | ⟨hj, hj2⟩
                  all_goals
                    go_wp2_with fail
                    go_meet
                    case rel => exact ⟨k3, hk35, HS.out, HT.out⟩
            case rest =>
                  obtain ⟨k3, hk35, hS, hT⟩ := hcut.out
                  have HCR : Hid (Calls Try.prog 23 #[.pointer (some ⟨g, 0, none⟩), .int .i64 kept, .int .i64 (-1)] wc fun e w' => ∃ g2 F' C, e = .returned (.pointer (some ⟨g2, 0, none⟩)) ∧ Hid (Aft (fun k => w.heap.size ≤ k ∧ k ≠ r) g g2 r F F' C w w')) := by
                    have hrl : r < wc.heap.size := by
                      obtain ⟨_, _, hm, _⟩ := hT
                      exact hm.lt
                    exact hS.crash (by omega) HFC.out hT (fun k hk => by have := hS.bel.size; exact ⟨by omega, by omega⟩) kept HW.out
                  clear hS hT hcut HSD HTD H1 HF1 HW HFC
                  go_wp2_with fail
                  refine HCR.out.mono ?_
                  rintro e W5 ⟨g2, F', C, rfl, HA⟩
                  obtain ⟨l, c, hmp, hall⟩ : ∃ l c, Mp strE W5 r l c ∧ ∀ x ∈ l, ∃ z, F x.k = some z ∧ x.v = .string (strOfNums z) := by
                    obtain ⟨cs, lo, _, _, _, _, h5, _⟩ := HA.out
                    exact h5
                  obtain ⟨rg, hit⟩ := Itr.start und47 hmp
                  have hml := hmp.lt
                  have HIT := hide hit
                  have HAL := hide hall
                  obtain ⟨gi, hgi⟩ : ∃ gi, gi = W5.heap.size := ⟨_, rfl⟩
                  have HA6 : Hid (Aft (fun k => (w.heap.size ≤ k ∧ k ≠ r) ∧ k ≠ gi) g g2 r F F' C w (W5.alloc (.mapIter (some r) c #[] c))) := (HA.out.narrow (fun k hk hO => ⟨hO, by omega⟩)).later (below_alloc W5 (.mapIter (some r) c #[] c) W5.heap.size (Nat.le_refl _))
                  rw [← hgi] at HIT rg
                  have hgr : gi ≠ r := by omega
                  have hwgi : w.heap.size ≤ gi := by have := HA.out.bel.size; omega
                  clear hmp hall hit HCR HA
                  go_wp2
                  clear rg
                  generalize W5.alloc (.mapIter (some r) c #[] c) = W6 at *
                  rw [← hgi]
                  clear hgi
                  go_loopg [17] l.length (fun gm _ wr => ∃ (todo : List (Ent ByteArray)), gm = todo.length ∧ Hid (Itr strE wr gi r l todo c) ∧ Hid (∀ x ∈ todo, x ∈ l) ∧ Hid (Aft (fun k => (w.heap.size ≤ k ∧ k ≠ r) ∧ k ≠ gi) g g2 r F F' C w wr))
                  case atStart => exact ⟨l, rfl, HIT, fun x hx => hx, HA6⟩
                  case round =>
                    obtain ⟨todo, rfl, HI, HSUB, HA⟩ := hrel
                    rcases HI.out.next hgr 0 with ⟨ht, nx⟩ | ⟨x, hx, W', todo', nx, en, hit', hp, hg⟩
                    · subst ht
                      have HLI := hide HA.out.list
                      clear HI HSUB HAL HIT HA6
                      go_wp2_with fail
                      refine HLI.out.mono ?_
                      rintro e W7 ⟨v, ns, rfl, hns, hown, hb7⟩
                      have HA7 := hide (HA.out.later hb7)
                      have HO7 := hide hown.zero
                      have HNS := hide hns
                      obtain ⟨pa, nc, rfl, _⟩ := hown.cells
                      have hnl : ns.length ≤ 1000 := by
                        obtain ⟨cs, lo, _, _, _, _, _, _, _, _, h9, _⟩ := HA.out
                        exact h9.few ns hns.1 (fun s hs => (hns.2.1 s).1 hs)
                      clear hns hown hb7 HLI HA nx
                      go_wp2
                      go_loopw [149] (fun ix wr => ∃ k5 : Nat, k5 ≤ ns.length ∧ ix = .int .i64 k5 ∧ Hid (Aft (fun k => (w.heap.size ≤ k ∧ k ≠ r) ∧ k ≠ gi) g g2 r F F' C w wr) ∧ Hid (OwnS wr 0 (.slice pa ns.length nc) ns)) (fun ix _ => ns.length - (intOf ix).toNat)
                      case atStart => exact ⟨0, by omega, rfl, HA7, HO7⟩
                      case round =>
                        obtain ⟨k5, hk5, rfl, HA, HO⟩ := hrel
                        by_cases hlt5 : k5 < ns.length
                        · obtain ⟨s, hs⟩ : ∃ s, ns[k5]? = some s := ⟨_, List.getElem?_eq_getElem hlt5⟩
                          obtain ⟨pa', c', e, hc⟩ := HO.out.cells
                          obtain ⟨rfl, rfl⟩ : pa = pa' ∧ nc = c' := by simpa using e
                          obtain ⟨gn, rfl, _, _, hcell⟩ := hc (by omega)
                          have cs := hcell k5 s hs
                          obtain ⟨y, hy⟩ : ∃ y, C s = some y := by
                            have := (HNS.out.2.1 s).1 (List.mem_of_getElem? hs)
                            cases hC : C s with
                            | none => exact absurd hC this
                            | some y => exact ⟨y, rfl⟩
                          have HR2 := hide (HA.out.read2 s y hy)
                          have HY := hide hy
                          clear hc hcell e hs hy HA7 HO7
                          go_wp2_with fail
                          refine HR2.out.mono ?_
                          rintro e W8 ⟨xa, xc, rfl, HB8, HL8⟩
                          have HA8 := hide (HA.out.later HL8.out)
                          have HO8 := hide (HO.out.later HL8.out)
                          have HR3 := hide (HA8.out.read3 s y HY.out)
                          obtain ⟨yn, Hyn⟩ : ∃ yn, Hid (yn = y.length) := ⟨_, rfl⟩
                          rw [← Hyn.out] at HB8 HR3 ⊢
                          clear HA HO HR2 HL8 cs
                          go_wp2_with fail
                          refine HR3.out.mono ?_
                          rintro e W9 ⟨ya, yl, yc, rfl, hy1, hy2, hy3, HB9, HL9⟩
                          have su := fun W => run_uptoA ya yl yc yn (yn : Int) rfl (by omega) W
                          have dl : decide ((yn : Int) > (yl : Int)) = false := by simp; omega
                          have HA9 := hide (HA8.out.later HL9.out)
                          have HO9 := hide (HO8.out.later HL9.out)
                          have HSM := hide (same_any xa ya yn yn xc yc y y W9 (HB8.out.later HL9.out (Nat.le_refl _)) HB9.out true (by simp))
                          clear HA8 HO8 HR3 HB8 HB9 HL9 Hyn HY
                          go_wp2_with fail
                          refine HSM.out.mono ?_
                          rintro e W10 ⟨rfl, rfl⟩
                          clear HSM su
                          go_wp2
                          exact ⟨⟨k5 + 1, by omega, rfl, HA9, HO9⟩, by simp [intOf]; omega⟩
                        · have HCR := hide (HA.out.crash 1073741824 (by decide))
                          clear HA HO HA7 HO7 HNS
                          go_wp2_with fail
                          refine HCR.out.mono ?_
                          rintro e W8 ⟨g3, rfl, HD3, HA8⟩
                          clear HCR
                          go_wp2_with fail
                          obtain ⟨O4, C', hD3⟩ := HD3.out
                          refine (loose_m O4 g3 C' C' [] [] W8 hD3).mono ?_
                          rintro e W9 ⟨rfl, rfl⟩
                          clear hD3 HD3
                          go_wp2_with fail
                          refine HA8.out.loose.mono ?_
                          rintro e W9 ⟨rfl, rfl⟩
                          have HBE := hide HA8.out.bel
                          clear HA8
                          go_wp2
                          go_ret
                          exact ⟨rfl, HBE.out⟩
                    · unfold strE at nx en
                      obtain ⟨z, hz, hv⟩ := HAL.out x (HSUB.out x hx)
                      rw [hv] at nx en
                      have HA' := hide (HA.out.grown hg (fun hO => hO.2 rfl) (fun e => hgr e.symm) hwgi)
                      have HI' := hide hit'
                      have HS' : Hid (∀ y ∈ todo', y ∈ l) := fun y hy => HSUB.out y (hp.mem_iff.2 (List.mem_cons_of_mem _ hy))
                      have hlen : todo.length = todo'.length + 1 := by have := hp.length_eq; simpa using this
                      have HRD := hide (HA'.out.read1 x.k z hz)
                      have ht := str_size z
                      clear hit' hp hg HI HA hx hz hv HSUB HIT HA6
                      generalize strOfNums z = t at *
                      go_wp2_with fail
                      refine HRD.out.mono ?_
                      rintro e W7 ⟨xa, xn, xc, rfl, hx1, hx2, hx3, cv, HB7⟩
                      have su := fun W => run_uptoA xa xn xc t.size (t.size : Int) rfl (by omega) W
                      have dl : decide ((xn : Int) < (t.size : Int)) = false := by simp; omega
                      have hbq : (t.toList == t.toList) = true := by simp
                      have HA7 := hide (HA'.out.later HB7.out)
                      have HI7 := hide (HI'.out.later HB7.out (Nat.le_refl _))
                      clear HA' HI' HRD nx en HB7 ht
                      go_wp2
                      go_roundg todo'.length
                      case measure => omega
                      case rel => exact ⟨todo', rfl, HI7, HS', HA7⟩

theorem own : ownKnob Try.prog.godebug = none := by kernel_rfl
theorem laidOut : laidOutB Try.prog = true := by kernel_rfl

set_option maxRecDepth 100000 in
theorem lifted (os : Os) (started : os.Started) (H : Type) (enc : TypeId × Value → H) :
    ReturnsInHanded {} Try.checked os 6 .any (Rows.diskSyncedSpec.pre6 enc Try.prog Try.f6 Rows.diskSyncedRow.domain false) (Rows.diskSyncedSpec.post enc Try.prog Try.f6 false true false false) := by
  refine returnsInHanded_of_change (C := Try.checked) own started (by kernel_rfl) Try.func6
    (ChangeSpec.witness6 (enc := enc) (C := Try.checked) false ⟨#[], #[.slice none 0 0, .slice none 0 0, .int .i64 0], []⟩ 8 (by kernel_rfl) (by kernel_rfl) (by kernel_rfl) (by kernel_rfl)) ?_
  intro W base args ds gs before hval0 hW hcnd _
  have hval : ∀ (j : Nat) t v, Try.f6.params[j]? = some t → args[j]? = some v → Value.okWide Try.prog W .any base t v := hval0
  have hW' := hW
  obtain ⟨p, q, hA0, hV, rfl, hfz, hnd⟩ := hW
  have hA : DataW.TrodAll enc Try.prog W 0 (fun _ => true) true Try.f6.params.toList args.toList ds p := hA0
  rw [Try.params6] at hA hval
  obtain ⟨v0, vs0, d0, ds0, p0, q0, hargs, rfl, rfl, h0, r0⟩ := trodAll_cons hA
  obtain ⟨v1, vs1, d1, ds1, p1, q1, rfl, rfl, rfl, h1, r1⟩ := trodAll_cons r0
  obtain ⟨v2, vs2, d2, ds2, p2, q2, rfl, rfl, rfl, h2, r2⟩ := trodAll_cons r1
  obtain ⟨rfl, rfl, rfl⟩ := trodAll_nil r2
  obtain rfl : args = #[v0, v1, v2] := by cases args; simp_all
  obtain ⟨rfl, rfl⟩ := trodVars_none hV
  obtain ⟨a0, n0, c0, rfl⟩ := okWide_slice Try.underlying40 (hval 0 40 v0 rfl rfl)
  have k0 := h0
  have lt0 : ∀ x ∈ p0, x.block < W.heap.size := by obtain ⟨m, hm⟩ := k0; exact DataW.trod_lt m _ _ _ hm
  obtain ⟨z0, w0⟩ : ∃ ds, Ds W a0 n0 ds ∧ (∀ d ∈ ds, wfD W d) ∧ n0 ≤ c0 ∧ c0 ≤ 9223372036854775807 := by
    obtain ⟨fuel, hf⟩ := h0
    rcases open_dops hf with hcs | ⟨x, l, c, ms, hcs, hl, hm, hM, hw⟩
    · simp [Value.cells] at hcs; obtain ⟨rfl, rfl, rfl⟩ := hcs; exact ⟨[], ⟨rfl, fun h => absurd h (Nat.lt_irrefl 0)⟩, by simp, Nat.le_refl _, by omega⟩
    · simp [Value.cells] at hcs; obtain ⟨rfl, rfl, rfl⟩ := hcs; exact ⟨ms, hM, hw, hl, by simpa [maxLen] using hm⟩
  obtain ⟨a1, n1, c1, rfl⟩ := okWide_slice Try.underlying40 (hval 1 40 v1 rfl rfl)
  have k1 := h1
  have lt1 : ∀ x ∈ p1, x.block < W.heap.size := by obtain ⟨m, hm⟩ := k1; exact DataW.trod_lt m _ _ _ hm
  obtain ⟨z1, w1⟩ : ∃ ds, Ds W a1 n1 ds ∧ (∀ d ∈ ds, wfD W d) ∧ n1 ≤ c1 ∧ c1 ≤ 9223372036854775807 := by
    obtain ⟨fuel, hf⟩ := h1
    rcases open_dops hf with hcs | ⟨x, l, c, ms, hcs, hl, hm, hM, hw⟩
    · simp [Value.cells] at hcs; obtain ⟨rfl, rfl, rfl⟩ := hcs; exact ⟨[], ⟨rfl, fun h => absurd h (Nat.lt_irrefl 0)⟩, by simp, Nat.le_refl _, by omega⟩
    · simp [Value.cells] at hcs; obtain ⟨rfl, rfl, rfl⟩ := hcs; exact ⟨ms, hM, hw, hl, by simpa [maxLen] using hm⟩
  obtain ⟨a2, rfl, rfl, rfl, w2⟩ := open_int Try.underlying3 (hval 2 3 v2 rfl rfl) h2
  clear hA0 hval0
  refine (walk a0 n0 c0 z0 a1 n1 c1 z1 a2 W w0.1 w0.2.1 w0.2.2.1 w0.2.2.2 w1.1 w1.2.1 w1.2.2.1 w1.2.2.2 w2).mono fun e W' ⟨he, bel⟩ => ?_
  subst he
  exact ⟨_, rfl, _, _, _, [], _, [], hW', trodAll_mk1 (shut_bool Try.underlying4 _), (trodAll_cons_mk (Below.trod laidOut (by kernel_rfl) (of_decide_eq_true (by kernel_rfl)) k0 bel lt0) (trodAll_cons_mk (Below.trod laidOut (by kernel_rfl) (of_decide_eq_true (by kernel_rfl)) k1 bel lt1) (trodAll_cons_mk (shut_int Try.underlying3 w2) trodAll_mk0))), rfl, bel.frame _, fun h => by cases h⟩

theorem over : Rows.diskSyncedRow.holds Try.pinned (OpenSpec.ofChange Rows.diskSyncedSpec) :=
  OpenClaim.holds_of_wide 6 Try.f6 rfl rfl rfl rfl rfl rfl rfl ⟨rfl, rfl, rfl, rfl, rfl⟩ rfl rfl rfl rfl rfl (by kernel_rfl) Try.func6 (by kernel_rfl)
    (of_decide_eq_true (by kernel_rfl)) (by unfold Func.isWrapper; first | (rw [if_pos (by decide +kernel)]; kernel_rfl) | (rw [if_neg (by decide +kernel)]; exact ⟨rfl, rfl⟩))
    (fun os started H enc _ => lifted os started H enc)

theorem proved : Rows.DiskSyncedSaid := over
#print axioms proved
end Go.Proofs.Ytjdbkmjhjcmoaaa.diskSynced
