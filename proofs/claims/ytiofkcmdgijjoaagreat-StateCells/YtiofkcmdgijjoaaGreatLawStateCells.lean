/- The statement StateCells: the cells of a state, laid into another one, make it the same; in rising order, each once. -/
import Derived.Test.YtiofkcmdgijjoaaGreatThW
import Derived.Test.YtiofkcmdgijjoaaGreatBeg7
import Derived.Test.YtiofkcmdgijjoaaGreatLawA
import Derived.Deep.LoopGhost
import Derived.Deep.CutBlock
import Derived.Deep.CutRange
import Derived.Lib.QuietBelow
namespace Go.Proofs.YtiofkcmdgijjoaaGreat.stateCells
open Go.ChangeShapes Go.WideShapes Go.ChangeAt Go.RowKit Go.MapKept Go.ChangeMaps Go.Lib Go.Sort

theorem run_oneM (b o n cap i : Nat) (hi : i < n) (hc : n ≤ cap) (W : World) :
    (Instr.slice 46 (.slice (some ⟨b, o, none⟩) n cap) (some (.int .i64 (i : Int))) (some (.int .i64 ((i : Int) + 1))) none).run Tryz.prog W = .ok (.slice (some ⟨b, o + i * 6, none⟩) 1 (cap - i)) W := by
  have e1 : (Instr.sliceBound (.int .i64 ((i : Int) + 1)) cap .sliceAcap).run Tryz.prog W = .ok (i + 1) W := by
    have := run_sliceBound (P := Tryz.prog) W .i64 ((i + 1 : Nat) : Int) cap .sliceAcap (by omega) (by omega)
    simpa using this
  have e2 : (Instr.sliceBound (.int .i64 (i : Int)) (i + 1) .sliceB).run Tryz.prog W = .ok i W := by
    have := run_sliceBound (P := Tryz.prog) W .i64 (i : Int) (i + 1) .sliceB (by omega) (by omega)
    simpa using this
  obtain ⟨i0, hi0, _, hz1, _⟩ := info_parts infoM
  have hz1' : i0.size = 6 := hz1
  have hic : ¬ cap = i := by omega
  simp [Instr.slice, Instr.sliceBounds, run_underlying Tryz.underlying46, e1, e2, sizeOf, typeInfo, hi0, hz1', hic, Addr.add]
/-- One change of a row. -/
theorem ms_one {w : World} {b o n : Nat} {xs : List Mq} (h : Ms w (some ⟨b, o, none⟩) n (xs.map Mq.m)) {i : Nat} {x : Mq} (hx : xs[i]? = some x) (hi : i < n) : Ms w (some ⟨b, o + i * 6, none⟩) 1 [x.m] := by
  have h1 := h.drop (x := some ⟨b, o + i * 6, none⟩) i (by omega) (fun _ => rfl)
  have h2 := h1.take 1 (by omega)
  obtain ⟨hlt, rfl⟩ := List.getElem?_eq_some_iff.1 hx
  rw [← List.map_drop, List.drop_eq_getElem_cons hlt] at h2
  exact h2

set_option maxRecDepth 100000 in
set_option maxHeartbeats 8000000 in
theorem walk (a0 : Option Addr) (n0 c0 : Nat) (z0 : List Mq) (a1 : Option Addr) (n1 c1 : Nat) (z1 : List Mq) (w : World) (h0 : Ms w a0 n0 (z0.map Mq.m)) (_f0 : ∀ x ∈ z0, wfQ x) (l0 : n0 ≤ c0) (_m0 : c0 ≤ 9223372036854775807) (h1 : Ms w a1 n1 (z1.map Mq.m)) (_f1 : ∀ x ∈ z1, wfQ x) (_l1 : n1 ≤ c1) (_m1 : c1 ≤ 9223372036854775807) :
    Calls Tryz.prog 7 #[.slice a0 n0 c0, .slice a1 n1 c1] w fun e w' => e = .returned (.bool true) ∧ Below w.heap.size w w' := by
  have HP0 := hide h0
  have HP1 := hide h1
  have HL0 : Hid (z0.length = n0) := by have := h0.1; rwa [List.length_map] at this
  have HL1 : Hid (z1.length = n1) := by have := h1.1; rwa [List.length_map] at this
  clear h0 _f0 h1 _f1
  go_enter Tryz.func7, Tryz.ntmps7
  go_wp2_with fail
  refine (begun7_true _).mono ?_
  rintro e w0 ⟨rfl, hb0⟩
  have HT := hide (Th.new hb0)
  clear hb0
  go_wp2_with fail
  refine (stateNew w0).mono ?_
  rintro e w9 ⟨rfl, rfl⟩
  go_wp2_with fail
  refine (stateNew _).mono ?_
  rintro e w8 ⟨rfl, rfl⟩
  go_wp2_with fail
  refine (refNew _).mono ?_
  rintro e w7 ⟨rfl, rfl⟩
  generalize (newSt (newSt w0)).alloc (.cells stZ 97) = W1 at *
  generalize (newSt (newSt w0)).heap.size = r at *
  generalize (newSt w0).heap.size + 1 + 1 + 1 = t2 at *
  generalize (newSt w0).heap.size + 1 + 1 = d2 at *
  generalize (newSt w0).heap.size + 1 = l2 at *
  generalize (newSt w0).heap.size = v2 at *
  generalize w0.heap.size + 1 + 1 + 1 = s at *
  generalize w0.heap.size + 1 + 1 = d1 at *
  generalize w0.heap.size + 1 = l1 at *
  generalize w0.heap.size = v1 at *
  have HI : Hid (∃ a, Th w W1 s v1 l1 d1 r a 0 t2 v2 l2 d2 ab0 0) := ⟨_, HT.out⟩
  clear HT
  go_upto_block 0 with fail
  go_cut [9] from 19 to 43 (fun _ wc => Hid (∃ a N, N ≤ 30 ∧ Th w wc s v1 l1 d1 r a N t2 v2 l2 d2 ab0 0))
  case first =>
    go_wp2_with fail
    go_loopg [9] 30 (fun gm ix wr => ∃ t : Nat, gm = 30 - t ∧ t ≤ n0 ∧ t ≤ 30 ∧ ix = .int .i64 t ∧ Hid (∃ a, Th w wr s v1 l1 d1 r a t t2 v2 l2 d2 ab0 0))
    case atStart => exact ⟨0, rfl, by omega, by omega, rfl, HI⟩
    case round =>
      clear HI
      obtain ⟨t, rfl, ht, ht30, rfl, HI⟩ := hrel
      by_cases hin : t < n0 ∧ t < 30
      · obtain ⟨hlt, hlt30⟩ := hin
        obtain ⟨x, hx⟩ : ∃ x, z0[t]? = some x := ⟨_, List.getElem?_eq_getElem (by rw [HL0.out]; exact hlt)⟩
        obtain ⟨a, hT⟩ := HI.out
        obtain ⟨b, o, rfl, p0, p1, p2, p3, p4, p5⟩ := (HP0.out.later hT.bel (Nat.le_refl _)).atQ hx
        have su := run_oneM b o n0 c0 t hlt l0
        have HIN : Hid (∀ W, Below w.heap.size w W → W.cell? ⟨b, o + t * 6, none⟩ = some (.int .i64 x.c) ∧ W.cell? ⟨b, o + t * 6 + 1, none⟩ = some (.int .i64 x.k.g) ∧ W.cell? ⟨b, o + t * 6 + 2, none⟩ = some (.int .i64 x.k.n) ∧ W.cell? ⟨b, o + t * 6 + 3, none⟩ = some (.int .i64 x.k.i) ∧ W.cell? ⟨b, o + t * 6 + 4, none⟩ = some (.int .i64 x.f) ∧ W.cell? ⟨b, o + t * 6 + 5, none⟩ = some (.int .i64 x.v)) := fun W hW => by
          obtain ⟨b', o', e, q0, q1, q2, q3, q4, q5⟩ := (HP0.out.later hW (Nat.le_refl _)).atQ hx
          obtain ⟨rfl, rfl⟩ : b = b' ∧ o = o' := by simpa using e
          exact ⟨q0, q1, q2, q3, q4, q5⟩
        have HTW := hide (hT.two x (some ⟨b, o + t * 6, none⟩) (c0 - t) (ms_one HP0.out hx hlt))
        have HBL := hide hT.bel
        obtain ⟨er, her⟩ : ∃ er, dErr a [x] = er := ⟨_, rfl⟩
        rw [her] at HTW
        generalize dQ a [x] = a2 at *
        clear her hT HI hx
        obtain ⟨xc, ⟨⟨xg, xn, xi⟩, xw⟩, xf, xv⟩ := x
        simp only at p0 p1 p2 p3 p4 p5 HIN
        have hmo : mtObj (⟨xc, ⟨(xg, xn, xi), xw⟩, xf, xv⟩ : Mq).m = (.cells #[.int .i64 xc, .int .i64 xg, .int .i64 xn, .int .i64 xi, .int .i64 xf, .int .i64 xv] 55) := rfl
        rw [hmo] at HTW
        clear hmo
        have HC1 : Hid (Calls Tryz.prog 18 #[.pointer (some ⟨s, 0, none⟩), .slice (some ⟨wr.heap.size, 0, none⟩) 1 1] (wr.alloc (.cells #[.int .i64 xc, .int .i64 xg, .int .i64 xn, .int .i64 xi, .int .i64 xf, .int .i64 xv] 55)).drew fun e w1 => e = .returned (.int .i64 er) ∧
            Hid (Calls Tryz.prog 19 #[.pointer (some ⟨r, 0, none⟩), .slice (some ⟨b, o + t * 6, none⟩) 1 (c0 - t)] w1 fun e w2 => e = .returned (.int .i64 er) ∧ Hid (Th w w2 s v1 l1 d1 r a2 (t + 1) t2 v2 l2 d2 ab0 0) ∧ (w2.cell? ⟨b, o + t * 6, none⟩ = some (.int .i64 xc) ∧ w2.cell? ⟨b, o + t * 6 + 1, none⟩ = some (.int .i64 xg) ∧ w2.cell? ⟨b, o + t * 6 + 2, none⟩ = some (.int .i64 xn) ∧ w2.cell? ⟨b, o + t * 6 + 3, none⟩ = some (.int .i64 xi) ∧ w2.cell? ⟨b, o + t * 6 + 4, none⟩ = some (.int .i64 xf) ∧ w2.cell? ⟨b, o + t * 6 + 5, none⟩ = some (.int .i64 xv))) ∧ (w1.cell? ⟨b, o + t * 6, none⟩ = some (.int .i64 xc) ∧ w1.cell? ⟨b, o + t * 6 + 1, none⟩ = some (.int .i64 xg) ∧ w1.cell? ⟨b, o + t * 6 + 2, none⟩ = some (.int .i64 xn) ∧ w1.cell? ⟨b, o + t * 6 + 3, none⟩ = some (.int .i64 xi) ∧ w1.cell? ⟨b, o + t * 6 + 4, none⟩ = some (.int .i64 xf) ∧ w1.cell? ⟨b, o + t * 6 + 5, none⟩ = some (.int .i64 xv))) := by
          refine Calls.mono HTW.out ?_
          rintro e w1 ⟨r1, r2, r3⟩
          refine ⟨r1, Calls.mono r3.out ?_, HIN.out _ r2⟩
          rintro e w2 ⟨q1, q2, q3⟩
          exact ⟨q1, q3, HIN.out _ q2⟩
        have s0 : wr.drew.cell? ⟨b, o + t * 6, none⟩ = some (.int .i64 xc) ∧ wr.drew.cell? ⟨b, o + t * 6 + 1, none⟩ = some (.int .i64 xg) ∧ wr.drew.cell? ⟨b, o + t * 6 + 2, none⟩ = some (.int .i64 xn) ∧ wr.drew.cell? ⟨b, o + t * 6 + 3, none⟩ = some (.int .i64 xi) ∧ wr.drew.cell? ⟨b, o + t * 6 + 4, none⟩ = some (.int .i64 xf) ∧ wr.drew.cell? ⟨b, o + t * 6 + 5, none⟩ = some (.int .i64 xv) := HIN.out _ HBL.out.drew
        have s0b : (wr.alloc (.cells #[.int .i64 xc, .int .i64 xg, .int .i64 xn, .int .i64 xi, .int .i64 xf, .int .i64 xv] 55)).drew.cell? ⟨b, o + t * 6, none⟩ = some (.int .i64 xc) ∧ (wr.alloc (.cells #[.int .i64 xc, .int .i64 xg, .int .i64 xn, .int .i64 xi, .int .i64 xf, .int .i64 xv] 55)).drew.cell? ⟨b, o + t * 6 + 1, none⟩ = some (.int .i64 xg) ∧ (wr.alloc (.cells #[.int .i64 xc, .int .i64 xg, .int .i64 xn, .int .i64 xi, .int .i64 xf, .int .i64 xv] 55)).drew.cell? ⟨b, o + t * 6 + 2, none⟩ = some (.int .i64 xn) ∧ (wr.alloc (.cells #[.int .i64 xc, .int .i64 xg, .int .i64 xn, .int .i64 xi, .int .i64 xf, .int .i64 xv] 55)).drew.cell? ⟨b, o + t * 6 + 3, none⟩ = some (.int .i64 xi) ∧ (wr.alloc (.cells #[.int .i64 xc, .int .i64 xg, .int .i64 xn, .int .i64 xi, .int .i64 xf, .int .i64 xv] 55)).drew.cell? ⟨b, o + t * 6 + 4, none⟩ = some (.int .i64 xf) ∧ (wr.alloc (.cells #[.int .i64 xc, .int .i64 xg, .int .i64 xn, .int .i64 xi, .int .i64 xf, .int .i64 xv] 55)).drew.cell? ⟨b, o + t * 6 + 5, none⟩ = some (.int .i64 xv) := HIN.out _ (HBL.out.trans ((below_alloc wr (.cells #[.int .i64 xc, .int .i64 xg, .int .i64 xn, .int .i64 xi, .int .i64 xf, .int .i64 xv] 55) wr.heap.size (Nat.le_refl _)).drew.mono HBL.out.size))
        have htz : (t : Int) < (n0 : Int) := by omega
        have ht30z : (t : Int) < 30 := by omega
        have hwr : IntKind.i64.wrap ((t : Int) + 1) = (t : Int) + 1 := by rw [IntKind.wrap_i64]; omega
        have hw64 : wrap64 ((t : Int) + 1) = (t : Int) + 1 := by rw [← Go.IntWalk.i64_left]; exact hwr
        clear p0 p1 p2 p3 p4 p5 HTW HBL
        go_upto_region 9 with fail
        go_cut [43] from 19 to 43 (fun c wx => c = .bool false ∧ Hid (Th w wx s v1 l1 d1 r a2 (t + 1) t2 v2 l2 d2 ab0 0))
        case first =>
          go_region_held3 (fun w' => w'.cell? ⟨b, o + t * 6, none⟩ = some (.int .i64 xc) ∧ w'.cell? ⟨b, o + t * 6 + 1, none⟩ = some (.int .i64 xg) ∧ w'.cell? ⟨b, o + t * 6 + 2, none⟩ = some (.int .i64 xn) ∧ w'.cell? ⟨b, o + t * 6 + 3, none⟩ = some (.int .i64 xi) ∧ w'.cell? ⟨b, o + t * 6 + 4, none⟩ = some (.int .i64 xf) ∧ w'.cell? ⟨b, o + t * 6 + 5, none⟩ = some (.int .i64 xv)) (first | with_reducible exact s0 | with_reducible exact s0b | with_reducible exact s1 | with_reducible exact s2) (first | (go_at_call 18; with_reducible refine HC1.out.mono ?_; rintro e W1 ⟨rfl, H1, s1⟩) | (go_at_call 19; with_reducible refine H1.out.mono ?_; rintro e W2 ⟨rfl, H2, s2⟩))
          all_goals
            go_wp2
            go_meet
            case rel => exact ⟨by simp, H2⟩
        case rest =>
          obtain ⟨rfl, H2⟩ := hcut
          have HN : Hid (∃ a, Th w wc s v1 l1 d1 r a (t + 1) t2 v2 l2 d2 ab0 0) := ⟨_, H2.out⟩
          clear H2 HC1 s0 s0b su HIN
          go_wp2
          go_roundg (30 - (t + 1))
          case measure => omega
          case rel => exact ⟨t + 1, rfl, by omega, by omega, by simp, HN⟩
      · have hcs : (¬ t < n0) ∨ (t < n0 ∧ ¬ t < 30) := by omega
        clear hin
        have HN : Hid (∃ a N, N ≤ 30 ∧ Th w wr s v1 l1 d1 r a N t2 v2 l2 d2 ab0 0) := by obtain ⟨a, h⟩ := HI.out; exact ⟨a, t, ht30, h⟩
        clear HI
        rcases hcs with hh | ⟨hh, hh2⟩
        all_goals
          go_wp2
          go_meet
          case rel => exact HN
  case rest =>
    obtain ⟨a, N, hN, hT⟩ := hcut.out
    have HI : Hid (∃ b, Th w wc s v1 l1 d1 r a N t2 v2 l2 d2 b 0) := ⟨_, hT⟩
    clear hcut hT
    go_upto_block 2 with fail
    go_cut [10] from 44 to 60 (fun _ wx => Hid (∃ b M, M ≤ 10 ∧ Th w wx s v1 l1 d1 r a N t2 v2 l2 d2 b M))
    case first =>
      go_wp2_with fail
      go_loopg [10] 10 (fun gm ix wr => ∃ t : Nat, gm = 10 - t ∧ t ≤ n1 ∧ t ≤ 10 ∧ ix = .int .i64 t ∧ Hid (∃ b, Th w wr s v1 l1 d1 r a N t2 v2 l2 d2 b t))
      case atStart => exact ⟨0, rfl, by omega, by omega, rfl, HI⟩
      case round =>
        clear HI
        obtain ⟨t, rfl, ht, ht10, rfl, HI⟩ := hrel
        by_cases hin : t < n1 ∧ t < 10
        · obtain ⟨hlt, hlt10⟩ := hin
          obtain ⟨x, hx⟩ : ∃ x, z1[t]? = some x := ⟨_, List.getElem?_eq_getElem (by rw [HL1.out]; exact hlt)⟩
          obtain ⟨bb, hT⟩ := HI.out
          obtain ⟨b, o, rfl, p0, p1, p2, p3, p4, p5⟩ := (HP1.out.later hT.bel (Nat.le_refl _)).atQ hx
          have HTD := hide (hT.tdo x)
          generalize dQ bb [x] = b3 at *
          clear hT HI hx
          obtain ⟨xc, ⟨⟨xg, xn, xi⟩, xw⟩, xf, xv⟩ := x
          simp only at p0 p1 p2 p3 p4 p5
          have hmo : mtObj (⟨xc, ⟨(xg, xn, xi), xw⟩, xf, xv⟩ : Mq).m = (.cells #[.int .i64 xc, .int .i64 xg, .int .i64 xn, .int .i64 xi, .int .i64 xf, .int .i64 xv] 55) := rfl
          rw [hmo] at HTD
          clear hmo
          have htz : (t : Int) < (n1 : Int) := by omega
          have ht10z : (t : Int) < 10 := by omega
          go_wp2_with fail
          refine HTD.out.mono ?_
          rintro e w5 ⟨⟨z5, rfl⟩, H5⟩
          have HN : Hid (∃ b, Th w w5 s v1 l1 d1 r a N t2 v2 l2 d2 b (t + 1)) := ⟨_, H5.out⟩
          clear HTD H5 p0 p1 p2 p3 p4 p5
          go_wp2
          go_roundg (10 - (t + 1))
          case measure => omega
          case rel => exact ⟨t + 1, rfl, by omega, by omega, by simp, HN⟩
        · have hcs : (¬ t < n1) ∨ (t < n1 ∧ ¬ t < 10) := by omega
          clear hin
          have HN : Hid (∃ b M, M ≤ 10 ∧ Th w wr s v1 l1 d1 r a N t2 v2 l2 d2 b M) := by obtain ⟨b, h⟩ := HI.out; exact ⟨b, t, ht10, h⟩
          clear HI
          rcases hcs with hh | ⟨hh, hh2⟩
          all_goals
            go_wp2
            go_meet
            case rel => exact HN
    case rest =>
      obtain ⟨bb, M, hM, hT⟩ := hcut.out
      have HLD := hide (hT.laid (by omega) (by omega))
      clear hcut hT HI
      go_wp2_with fail
      refine HLD.out.mono ?_
      rintro e w5 ⟨v5, rfl, H5⟩
      clear HLD
      obtain ⟨⟨ks, hris, hrd, hkl⟩, hb5, hld⟩ := H5.out
      have HRI := hide hris
      have HLD := hide hld
      have HB5 := hide hb5
      obtain ⟨pa, cap, rfl, hcc⟩ := hrd
      rw [List.length_map] at hcc ⊢
      have HLL : Hid (∀ W2, Below w5.heap.size w5 W2 → Calls Tryz.prog 28 #[.pointer (some ⟨t2, 0, none⟩), .slice pa ks.length cap] W2 fun e w3 => e = .returned (.int .i64 0) ∧ Hid (Th w w3 s v1 l1 d1 r a N t2 v2 l2 d2 a N)) := fun W2 hW2 => by
        have := HLD.out W2 hW2
        rw [List.length_map] at this
        exact this
      have HCC := hide hcc
      clear H5 hris hld hb5 hcc HLD
      obtain ⟨n, hn⟩ : ∃ n, ks.length = n := ⟨_, rfl⟩
      rw [hn] at hkl HCC HLL ⊢
      have HN := hide hn
      clear hn
      go_wp2
      go_loopg [12] (n + 1) (fun gm ix wr => ∃ t : Nat, gm = n + 2 - t ∧ 1 ≤ t ∧ (t ≤ n ∨ t = 1) ∧ ix = .int .i64 t ∧ Hid (Below w5.heap.size w5 wr))
      case atStart => exact ⟨1, by omega, by omega, by omega, rfl, Below.refl _ _⟩
      case round =>
        obtain ⟨t, rfl, ht1, htn, rfl, HB⟩ := hrel
        by_cases hlt : t < n
        · obtain ⟨j, rfl⟩ : ∃ j, t = j + 1 := ⟨t - 1, by omega⟩
          obtain ⟨g, o, rfl, hat⟩ := HCC.out (by omega)
          obtain ⟨k0, hk0⟩ : ∃ k, ks[j]? = some k := ⟨_, List.getElem?_eq_getElem (by rw [HN.out]; omega)⟩
          obtain ⟨k1, hk1⟩ : ∃ k, ks[j + 1]? = some k := ⟨_, List.getElem?_eq_getElem (by rw [HN.out]; omega)⟩
          obtain ⟨_, _, _, _, q0, q1, q2, _⟩ := hat j (a.at k0) (by rw [List.getElem?_map, hk0]; rfl)
          obtain ⟨_, _, _, _, y0, y1, y2, _⟩ := hat (j + 1) (a.at k1) (by rw [List.getElem?_map, hk1]; rfl)
          have hle : lessK (k3T k0) (k3T k1) = true := by
            obtain ⟨i1, rfl⟩ := List.getElem?_eq_some_iff.1 hk0
            obtain ⟨i2, rfl⟩ := List.getElem?_eq_some_iff.1 hk1
            exact List.pairwise_iff_getElem.1 HRI.out j (j + 1) i1 i2 (Nat.lt_succ_self _)
          have QL : Hid (∀ (d : Nat) (os : Array Obj), Calls Tryz.prog 33 #[.agg #[.int .i64 k0.g, .int .i64 k0.n, .int .i64 k0.i], .agg #[.int .i64 k1.g, .int .i64 k1.n, .int .i64 k1.i]] (grow (redrawn wr d) os) fun e w' => e = .returned (.bool true) ∧ ∃ p : Regrown, w' = grow (redrawn wr p.d) p.os) := fun d os => by
            rw [← hle]
            exact Calls.regrown_of (refLess_any (k3T k0) (k3T k1) _)
          have z0 := cell_regrown (same_cell HB.out q0)
          have z1 := cell_regrown (same_cell HB.out q1)
          have z2 := cell_regrown (same_cell HB.out q2)
          have z3 := cell_regrown (same_cell HB.out y0)
          have z4 := cell_regrown (same_cell HB.out y1)
          have z5 := cell_regrown (same_cell HB.out y2)
          have e0 : (a.at k0).k = k0 := rfl
          have e1 : (a.at k1).k = k1 := rfl
          rw [e0] at z0 z1 z2
          rw [e1] at z3 z4 z5
          have hjz : (j : Int) < (n : Int) := by omega
          have hj0 : (0 : Int) ≤ (j : Int) := by omega
          have hsub : ((j + 1 : Nat) : Int) - 1 = (j : Int) := by omega
          have htz : ((j + 1 : Nat) : Int) < (n : Int) := by omega
          clear hat hk0 hk1 q0 q1 q2 y0 y1 y2 hle e0 e1
          go_wp2_with fail
          refine wp_region_quiet_below (by kernel_rfl) (by kernel_rfl) ?_
          repeat (go_big_quiet_step ((go_at_call 33; exact QL.out _ _)))
          refine wpQuiet_nil ?_
          intro _ hw'
          obtain ⟨⟨dq, osq⟩, hw''⟩ := hw'
          subst hw''
          have HB2 := hide (HB.out.trans ((below_regrown wr dq osq).mono HB.out.size))
          clear z0 z1 z2 z3 z4 z5 QL HB
          generalize grow (redrawn wr dq) osq = WX at *
          go_wp2
          go_roundg (n + 2 - (j + 1 + 1))
          case measure => omega
          case rel => exact ⟨j + 1 + 1, rfl, by omega, by omega, by simp, HB2⟩
        · have htz : ¬ (t : Int) < (n : Int) := by omega
          have HL := hide (HLL.out _ HB.out)
          clear HLL HCC HRI HN HB
          go_wp2_with fail
          refine HL.out.mono ?_
          rintro e w6 ⟨rfl, HT6⟩
          clear HL
          have HE := hide (HT6.out.eq (by omega) (by omega))
          go_wp2_with fail
          refine HE.out.mono ?_
          rintro e w7 ⟨rfl, hb7⟩
          have HT7 := hide (HT6.out.later hb7)
          clear hb7 HE HT6
          have HBO := hide (HT7.out.both (by omega))
          go_wp2_with fail
          refine HBO.out.mono ?_
          rintro e w8 ⟨v8, rfl, H8⟩
          clear HBO HT7
          go_wp2_with fail
          refine H8.out.mono ?_
          rintro e w9 ⟨v9, rfl, H9⟩
          clear H8
          go_wp2_with fail
          refine H9.out.mono ?_
          rintro e w10 ⟨rfl, HBF⟩
          clear H9
          go_wp2
          go_ret
          exact ⟨rfl, HBF.out⟩

theorem own : ownKnob Tryz.prog.godebug = none := by kernel_rfl
theorem laidOut : laidOutB Tryz.prog = true := by kernel_rfl

set_option maxRecDepth 100000 in
theorem lifted (os : Os) (started : os.Started) (H : Type) (enc : TypeId × Value → H) :
    ReturnsInHanded {} Tryz.checked os 7 .any (Rows.stateCellsSpec.pre6 enc Tryz.prog Tryz.f7 Rows.stateCellsRow.domain false) (Rows.stateCellsSpec.post enc Tryz.prog Tryz.f7 false true false false) := by
  refine returnsInHanded_of_change (C := Tryz.checked) own started (by kernel_rfl) Tryz.func7
    (ChangeSpec.witness6 (enc := enc) (C := Tryz.checked) false ⟨#[], #[.slice none 0 0, .slice none 0 0], []⟩ 8 (by kernel_rfl) (by kernel_rfl) (by kernel_rfl) (by kernel_rfl)) ?_
  intro W base args ds gs before hval0 hW hcnd _
  have hval : ∀ (j : Nat) t v, Tryz.f7.params[j]? = some t → args[j]? = some v → Value.okWide Tryz.prog W .any base t v := hval0
  have hW' := hW
  obtain ⟨p, q, hA0, hV, rfl, hfz, hnd⟩ := hW
  have hA : DataW.TrodAll enc Tryz.prog W 0 (fun _ => true) true Tryz.f7.params.toList args.toList ds p := hA0
  rw [Tryz.params7] at hA hval
  obtain ⟨v0, vs0, d0, ds0, p0, q0, hargs, rfl, rfl, h0, r0⟩ := trodAll_cons hA
  obtain ⟨v1, vs1, d1, ds1, p1, q1, rfl, rfl, rfl, h1, r1⟩ := trodAll_cons r0
  obtain ⟨rfl, rfl, rfl⟩ := trodAll_nil r1
  obtain rfl : args = #[v0, v1] := by cases args; simp_all
  obtain ⟨rfl, rfl⟩ := trodVars_none hV
  obtain ⟨a0, n0, c0, rfl⟩ := okWide_slice Tryz.underlying46 (hval 0 46 v0 rfl rfl)
  have k0 := h0
  have lt0 : ∀ x ∈ p0, x.block < W.heap.size := by obtain ⟨m, hm⟩ := k0; exact DataW.trod_lt m _ _ _ hm
  obtain ⟨z0, w0⟩ : ∃ xs : List Mq, Ms W a0 n0 (xs.map Mq.m) ∧ (∀ x ∈ xs, wfQ x) ∧ n0 ≤ c0 ∧ c0 ≤ 9223372036854775807 := by
    obtain ⟨fuel, hf⟩ := h0
    rcases open_mqs hf with hcs | ⟨x, l, c, ms, hcs, hl, hm, hM, hw⟩
    · simp [Value.cells] at hcs; obtain ⟨rfl, rfl, rfl⟩ := hcs; exact ⟨[], ⟨rfl, fun h => absurd h (Nat.lt_irrefl 0)⟩, by simp, Nat.le_refl _, by omega⟩
    · simp [Value.cells] at hcs; obtain ⟨rfl, rfl, rfl⟩ := hcs; exact ⟨ms, hM, hw, hl, by simpa [maxLen] using hm⟩
  obtain ⟨a1, n1, c1, rfl⟩ := okWide_slice Tryz.underlying46 (hval 1 46 v1 rfl rfl)
  have k1 := h1
  have lt1 : ∀ x ∈ p1, x.block < W.heap.size := by obtain ⟨m, hm⟩ := k1; exact DataW.trod_lt m _ _ _ hm
  obtain ⟨z1, w1⟩ : ∃ xs : List Mq, Ms W a1 n1 (xs.map Mq.m) ∧ (∀ x ∈ xs, wfQ x) ∧ n1 ≤ c1 ∧ c1 ≤ 9223372036854775807 := by
    obtain ⟨fuel, hf⟩ := h1
    rcases open_mqs hf with hcs | ⟨x, l, c, ms, hcs, hl, hm, hM, hw⟩
    · simp [Value.cells] at hcs; obtain ⟨rfl, rfl, rfl⟩ := hcs; exact ⟨[], ⟨rfl, fun h => absurd h (Nat.lt_irrefl 0)⟩, by simp, Nat.le_refl _, by omega⟩
    · simp [Value.cells] at hcs; obtain ⟨rfl, rfl, rfl⟩ := hcs; exact ⟨ms, hM, hw, hl, by simpa [maxLen] using hm⟩
  clear hA0 hval0
  refine (walk a0 n0 c0 z0 a1 n1 c1 z1 W w0.1 w0.2.1 w0.2.2.1 w0.2.2.2 w1.1 w1.2.1 w1.2.2.1 w1.2.2.2).mono fun e W' ⟨he, bel⟩ => ?_
  subst he
  exact ⟨_, rfl, _, _, _, [], _, [], hW', trodAll_mk1 (shut_bool Tryz.underlying4 _), (trodAll_cons_mk (Below.trod laidOut (by kernel_rfl) (of_decide_eq_true (by kernel_rfl)) k0 bel lt0) (trodAll_cons_mk (Below.trod laidOut (by kernel_rfl) (of_decide_eq_true (by kernel_rfl)) k1 bel lt1) trodAll_mk0)), rfl, bel.frame _, fun h => by cases h⟩

theorem over : Rows.stateCellsRow.holds Tryz.pinned (OpenSpec.ofChange Rows.stateCellsSpec) :=
  OpenClaim.holds_of_wide 7 Tryz.f7 rfl rfl rfl rfl rfl rfl rfl ⟨rfl, rfl, rfl, rfl, rfl⟩ rfl rfl rfl rfl rfl (by kernel_rfl) Tryz.func7 (by kernel_rfl)
    (of_decide_eq_true (by kernel_rfl)) (by unfold Func.isWrapper; first | (rw [if_pos (by decide +kernel)]; kernel_rfl) | (rw [if_neg (by decide +kernel)]; exact ⟨rfl, rfl⟩))
    (fun os started H enc _ => lifted os started H enc)

theorem proved : Rows.StateCellsSaid := over
#print axioms proved
end Go.Proofs.YtiofkcmdgijjoaaGreat.stateCells
