/- The statement MutKeys: the keys of sources, records and namespaces are as the document says, and the order of keys is one, for all numbers and all keys. -/
import Derived.Test.YtgpfpmocdmeldaaMutK
import Derived.Test.YtgpfpmocdmeldaaBegun
import Derived.Deep.DeepCutAuto
import Derived.Lib.SmallJoins
import Derived.Lib.QuietBelow
namespace Go.Proofs.Ytgpfpmocdmeldaa.mutKeys
open Go.ChangeShapes Go.WideShapes Go.ChangeAt Go.RowKit Go.Sort

def okB (s k n : Int) : Bool := decide ((0 ≤ s ∧ s < 3) ∧ (0 ≤ k ∧ k < 8) ∧ (0 ≤ n ∧ n < 2))
def kOf (s k n : Int) : Int × Int × Int := if okB s k n then keyOf s k n else (0, 0, 0)

theorem keyOf_all (s k n : Int) (w : World) : Calls Try.prog 9 #[.int .i64 s, .int .i64 k, .int .i64 n] w fun e w' => e = .returned (.tuple #[keyV (kOf s k n), .bool (okB s k n)]) ∧ Below w.heap.size w w' := by
  by_cases h : (0 ≤ s ∧ s < 3) ∧ (0 ≤ k ∧ k < 8) ∧ (0 ≤ n ∧ n < 2)
  · have e : okB s k n = true := by simpa [okB] using h
    have e2 : kOf s k n = keyOf s k n := by rw [kOf, if_pos e]
    rw [e2, e]
    exact keyOf_yes s k n w h.1 h.2.1 h.2.2
  · have e : okB s k n = false := by simpa [okB] using h
    have e2 : kOf s k n = (0, 0, 0) := by rw [kOf, if_neg (by simp [e])]
    rw [e2, e]
    exact keyOf_no s k n w h

/-- The three keys, laid behind one another. -/
def Boxes (W : World) (B : Nat) (a b c : Int × Int × Int) : Prop := W.heap[B]? = some (keyObj a) ∧ W.heap[B + 1]? = some (keyObj b) ∧ W.heap[B + 2]? = some (keyObj c)
theorem Boxes.later {W W' : World} {B : Nat} {a b c : Int × Int × Int} (h : Boxes W B a b c) (hb : Below W.heap.size W W') : Boxes W' B a b c :=
  ⟨(hb.block _ (lt_of_heap h.1)).trans h.1, (hb.block _ (lt_of_heap h.2.1)).trans h.2.1, (hb.block _ (lt_of_heap h.2.2)).trans h.2.2⟩
theorem Boxes.cells {W : World} {B : Nat} {a0 a1 a2 b0 b1 b2 c0 c1 c2 : Int} (h : Boxes W B (a0, a1, a2) (b0, b1, b2) (c0, c1, c2)) :
    (W.cell? ⟨B, 0, none⟩ = some (.int .i64 a0) ∧ W.cell? ⟨B, 1, none⟩ = some (.int .i64 a1) ∧ W.cell? ⟨B, 2, none⟩ = some (.int .i64 a2)) ∧ (W.cell? ⟨B + 1, 0, none⟩ = some (.int .i64 b0) ∧ W.cell? ⟨B + 1, 1, none⟩ = some (.int .i64 b1) ∧ W.cell? ⟨B + 1, 2, none⟩ = some (.int .i64 b2)) ∧ (W.cell? ⟨B + 1 + 1, 0, none⟩ = some (.int .i64 c0) ∧ W.cell? ⟨B + 1 + 1, 1, none⟩ = some (.int .i64 c1) ∧ W.cell? ⟨B + 1 + 1, 2, none⟩ = some (.int .i64 c2)) :=
  ⟨cells_three h.1, cells_three h.2.1, cells_three h.2.2⟩

set_option maxRecDepth 100000 in
theorem neq_key (a0 a1 a2 b0 b1 b2 : Int) (W : World) : (binOp .neq 23 (.agg #[.int .i64 a0, .int .i64 a1, .int .i64 a2]) (.agg #[.int .i64 b0, .int .i64 b1, .int .i64 b2])).run Try.prog W = .ok (.bool (decide ((a0, a1, a2) ≠ (b0, b1, b2)))) W := by
  by_cases h0 : a0 = b0
  · by_cases h1 : a1 = b1
    · by_cases h2 : a2 = b2
      · subst h0; subst h1; subst h2
        simp [go_sem]
      · simp [go_sem, h0, h1, h2]
    · simp [go_sem, h0, h1]
  · simp [go_sem, h0]

/-- What stays while keys are held against each other. -/
def J (wc : World) (B : Nat) (a b c : Int × Int × Int) (W : World) : Prop := Boxes W B a b c ∧ Below wc.heap.size wc W
theorem J.drew {wc : World} {B : Nat} {a b c : Int × Int × Int} {W : World} (h : J wc B a b c W) : J wc B a b c W.drew := ⟨h.1, h.2.drew⟩
theorem J.later {wc : World} {B : Nat} {a b c : Int × Int × Int} {W W' : World} (h : J wc B a b c W) (hb : Below W.heap.size W W') : J wc B a b c W' := ⟨h.1.later hb, h.2.trans (hb.mono h.2.size)⟩

theorem boxes_new (w : World) (a b c : Int × Int × Int) : Boxes (((w.alloc (keyObj a)).alloc (keyObj b)).alloc (keyObj c)) w.heap.size a b c ∧ Below w.heap.size w (((w.alloc (keyObj a)).alloc (keyObj b)).alloc (keyObj c)) := by
  refine ⟨⟨?_, ?_, ?_⟩, ((below_alloc w _ _ (Nat.le_refl _)).trans (below_alloc _ _ _ (by simp))).trans (below_alloc _ _ _ (by simp; omega))⟩
  · rw [Below.heap_alloc _ _ _ (by simp; omega), Below.heap_alloc _ _ _ (by simp)]; exact heap_alloc_new w _
  · rw [Below.heap_alloc _ _ _ (by simp)]
    have := heap_alloc_new (w.alloc (keyObj a)) (keyObj b)
    simpa using this
  · have := heap_alloc_new ((w.alloc (keyObj a)).alloc (keyObj b)) (keyObj c)
    simpa using this

set_option maxRecDepth 100000 in
set_option maxHeartbeats 4000000 in
theorem walk (a0 a1 a2 b0 b1 b2 c0 c1 c2 s k n : Int) (w : World) (ws : (Lit.int .i64 s).wf = true) (wk : (Lit.int .i64 k).wf = true) (wn : (Lit.int .i64 n).wf = true) :
    Calls Try.prog 3 #[keyV (a0, a1, a2), keyV (b0, b1, b2), keyV (c0, c1, c2), .int .i64 s, .int .i64 k, .int .i64 n] w fun e w' => e = .returned (.bool true) ∧ Below w.heap.size w w' := by
  have hs := wf_i64 ws
  have hk := wf_i64 wk
  have hn := wf_i64 wn
  clear ws wk wn
  unfold keyV
  simp only
  go_enter Try.func3, Try.ntmps3
  go_wp2_with fail
  have hbx := boxes_new w (a0, a1, a2) (b0, b1, b2) (c0, c1, c2)
  unfold keyObj at hbx
  simp only at hbx
  generalize ((w.alloc (.cells #[.int .i64 a0, .int .i64 a1, .int .i64 a2] 23)).alloc (.cells #[.int .i64 b0, .int .i64 b1, .int .i64 b2] 23)).alloc (.cells #[.int .i64 c0, .int .i64 c1, .int .i64 c2] 23) = W0 at *
  refine (begun_true _).mono ?_
  rintro e w1 ⟨rfl, hb1⟩
  have HX1 := hide (hbx.1.later hb1)
  have H1 := hide (hbx.2.trans (hb1.mono hbx.2.size))
  clear hb1 hbx
  go_wp2_with fail
  refine (keyOf_all s k n _).mono ?_
  unfold keyV
  rintro e w2 ⟨rfl, hb2⟩
  have HX2 := hide (HX1.out.later hb2)
  have H2 := hide (H1.out.trans (hb2.mono H1.out.size))
  clear hb2 HX1 H1
  go_upto_region 5 with fail
  have hb3 := below_alloc w2 (.cells #[.int .i64 (kOf s k n).1, .int .i64 (kOf s k n).2.1, .int .i64 (kOf s k n).2.2] 23) w2.heap.size (Nat.le_refl _)
  have hk3 := heap_alloc_new w2 (.cells #[.int .i64 (kOf s k n).1, .int .i64 (kOf s k n).2.1, .int .i64 (kOf s k n).2.2] 23)
  have HX3 := hide (HX2.out.later hb3)
  have H3 := hide (H2.out.trans (hb3.mono H2.out.size))
  have HK3 := hide hk3
  generalize w2.alloc (.cells #[.int .i64 (kOf s k n).1, .int .i64 (kOf s k n).2.1, .int .i64 (kOf s k n).2.2] 23) = W3 at *
  clear hb3 hk3 HX2 H2
  go_cut [16] (fun m wx => m = .bool (okB s k n) ∧ wx = W3)
  case first =>
    by_cases p1 : 0 ≤ s
    · by_cases p2 : s < 3
      · by_cases p3 : 0 ≤ k
        · by_cases p4 : k < 8
          · by_cases p5 : n = 0
            · have q5 : (n == 0) = true := by simpa using p5
              have E : Hid (okB s k n = true) := by show _ = _; simp [okB]; omega
              clear p5
              go_wp2
              go_meet
              case rel => exact ⟨by rw [E.out], rfl⟩
            · have q5 : (n == 0) = false := by simpa using p5
              by_cases p6 : n = 1
              · have q6 : (n == 1) = true := by simpa using p6
                have E : Hid (okB s k n = true) := by show _ = _; simp [okB]; omega
                clear p5 p6
                go_wp2
                go_meet
                case rel => exact ⟨by rw [E.out], rfl⟩
              · have q6 : (n == 1) = false := by simpa using p6
                have E : Hid (okB s k n = false) := by show _ = _; simp [okB]; omega
                clear p5 p6
                go_wp2
                go_meet
                case rel => exact ⟨by rw [E.out], rfl⟩
          · have E : Hid (okB s k n = false) := by show _ = _; simp [okB]; omega
            go_wp2
            go_meet
            case rel => exact ⟨by rw [E.out], rfl⟩
        · have E : Hid (okB s k n = false) := by show _ = _; simp [okB]; omega
          go_wp2
          go_meet
          case rel => exact ⟨by rw [E.out], rfl⟩
      · have E : Hid (okB s k n = false) := by show _ = _; simp [okB]; omega
        go_wp2
        go_meet
        case rel => exact ⟨by rw [E.out], rfl⟩
    · have E : Hid (okB s k n = false) := by show _ = _; simp [okB]; omega
      go_wp2
      go_meet
      case rel => exact ⟨by rw [E.out], rfl⟩
  case rest =>
    obtain ⟨rfl, rfl⟩ := hcut
    go_upto_region 6 with fail
    go_cut [15, 16, 86] (fun _ _ m wx => m = .bool false ∧ wx = wc)
    case first =>
      obtain ⟨k0, k1, k2⟩ := cells_three HK3.out
      cases hB : okB s k n with
      | true =>
        have hh : (0 ≤ s ∧ s < 3) ∧ (0 ≤ k ∧ k < 8) ∧ (0 ≤ n ∧ n < 2) := by simpa [okB] using hB
        have e2 : kOf s k n = keyOf s k n := by rw [kOf, if_pos hB]
        rw [e2] at k0 k1 k2
        simp only [keyOf] at k0 k1 k2
        obtain ⟨⟨q1, q2⟩, ⟨q3, q4⟩, q5, q6⟩ := hh
        clear e2 hB
        go_wp2
        go_meet
        case rel => exact ⟨rfl, rfl⟩
      | false =>
        have e2 : kOf s k n = (0, 0, 0) := by rw [kOf, if_neg (by simp [hB])]
        rw [e2] at k0 k1 k2
        simp only at k0 k1 k2
        clear e2 hB
        go_wp2
        go_meet
        case rel => exact ⟨rfl, rfl⟩
    case rest =>
      obtain ⟨rfl, rfl⟩ := hcut
      go_upto_region 8 with fail
      have J0 : J wc w.heap.size (a0, a1, a2) (b0, b1, b2) (c0, c1, c2) wc := ⟨HX3.out, Below.refl _ _⟩
      have CL : Hid (∀ (x0 x1 x2 y0 y1 y2 : Int) (W : World), J wc w.heap.size (a0, a1, a2) (b0, b1, b2) (c0, c1, c2) W → Calls Try.prog 10 #[.agg #[.int .i64 x0, .int .i64 x1, .int .i64 x2], .agg #[.int .i64 y0, .int .i64 y1, .int .i64 y2]] W fun e w' => e = .returned (.bool (lessK (x0, x1, x2) (y0, y1, y2))) ∧ J wc w.heap.size (a0, a1, a2) (b0, b1, b2) (c0, c1, c2) w') := by
        intro x0 x1 x2 y0 y1 y2 W hW
        refine Calls.mono (show Calls Try.prog 10 #[keyV (x0, x1, x2), keyV (y0, y1, y2)] W _ from less_any (x0, x1, x2) (y0, y1, y2) W) ?_
        rintro e w' ⟨rfl, hb⟩
        exact ⟨rfl, hW.later hb⟩
      have CR : Hid (∀ (x0 x1 x2 y0 y1 y2 : Int) (W : World), J wc w.heap.size (a0, a1, a2) (b0, b1, b2) (c0, c1, c2) W → Calls Try.prog 11 #[.agg #[.int .i64 x0, .int .i64 x1, .int .i64 x2], .agg #[.int .i64 y0, .int .i64 y1, .int .i64 y2]] W fun e w' => e = .returned (.bool (lessK (x0, x1, x2) (y0, y1, y2))) ∧ J wc w.heap.size (a0, a1, a2) (b0, b1, b2) (c0, c1, c2) w') := by
        intro x0 x1 x2 y0 y1 y2 W hW
        refine Calls.mono (show Calls Try.prog 11 #[keyV (x0, x1, x2), keyV (y0, y1, y2)] W _ from refLess_any (x0, x1, x2) (y0, y1, y2) W) ?_
        rintro e w' ⟨rfl, hb⟩
        exact ⟨rfl, hW.later hb⟩
      have pAA := lessK_irr (a0, a1, a2)
      have QL : Hid (∀ (x0 x1 x2 y0 y1 y2 : Int) (d : Nat) (os : Array Obj), Calls Try.prog 10 #[.agg #[.int .i64 x0, .int .i64 x1, .int .i64 x2], .agg #[.int .i64 y0, .int .i64 y1, .int .i64 y2]] (grow (redrawn wc d) os) fun e w' => e = .returned (.bool (lessK (x0, x1, x2) (y0, y1, y2))) ∧ ∃ p : Regrown, w' = grow (redrawn wc p.d) p.os) :=
        fun x0 x1 x2 y0 y1 y2 d os => Calls.regrown_of (less_any (x0, x1, x2) (y0, y1, y2) _)
      have QR : Hid (∀ (x0 x1 x2 y0 y1 y2 : Int) (d : Nat) (os : Array Obj), Calls Try.prog 11 #[.agg #[.int .i64 x0, .int .i64 x1, .int .i64 x2], .agg #[.int .i64 y0, .int .i64 y1, .int .i64 y2]] (grow (redrawn wc d) os) fun e w' => e = .returned (.bool (lessK (x0, x1, x2) (y0, y1, y2))) ∧ ∃ p : Regrown, w' = grow (redrawn wc p.d) p.os) :=
        fun x0 x1 x2 y0 y1 y2 d os => Calls.regrown_of (refLess_any (x0, x1, x2) (y0, y1, y2) _)
      go_cut [125] (fun m wx => m = .bool false ∧ J wc w.heap.size (a0, a1, a2) (b0, b1, b2) (c0, c1, c2) wx)
      case first =>
        obtain ⟨⟨y0, y1, y2⟩, ⟨y3, y4, y5⟩, _⟩ := J0.1.cells
        have z0 := cell_regrown y0
        have z1 := cell_regrown y1
        have z2 := cell_regrown y2
        have z3 := cell_regrown y3
        have z4 := cell_regrown y4
        have z5 := cell_regrown y5
        have HJ0 := hide J0
        clear y0 y1 y2 y3 y4 y5 J0
        by_cases hab : (a0, a1, a2) = (b0, b1, b2)
        · have nk := fun W => neq_key a0 a1 a2 b0 b1 b2 W
          rw [decide_eq_false (show ¬ ((a0, a1, a2) ≠ (b0, b1, b2)) from fun h => h hab)] at nk
          have pAB : lessK (a0, a1, a2) (b0, b1, b2) = false := by rw [← hab]; exact pAA
          clear hab
          clear CL CR
          refine wp_region_quiet_below (by kernel_rfl) (by kernel_rfl) ?_
          repeat (quiet_step (first | (go_at_call 10; exact QL.out _ _ _ _ _ _ _ _) | (go_at_call 11; exact QR.out _ _ _ _ _ _ _ _)))
          refine wpQuiet_nil ?_
          intro _ hw'
          obtain ⟨⟨dq, osq⟩, hw''⟩ := hw'
          subst hw''
          have hbq := below_regrown wc dq osq
          clear z0 z1 z2 z3 z4 z5 nk QL QR
          generalize grow (redrawn wc dq) osq = WX at *
          have HJX := hide (HJ0.out.later hbq)
          clear hbq
          go_wp2
          go_meet
          case rel => exact ⟨rfl, HJX.out⟩
        · have nk := fun W => neq_key a0 a1 a2 b0 b1 b2 W
          rw [decide_eq_true (show (a0, a1, a2) ≠ (b0, b1, b2) from hab)] at nk
          have HN := hide hab
          clear hab
          cases pAB : lessK (a0, a1, a2) (b0, b1, b2) with
          | true =>
            have pBA := lessK_asym _ _ pAB
            clear CL CR
            refine wp_region_quiet_below (by kernel_rfl) (by kernel_rfl) ?_
            repeat (quiet_step (first | (go_at_call 10; exact QL.out _ _ _ _ _ _ _ _) | (go_at_call 11; exact QR.out _ _ _ _ _ _ _ _)))
            refine wpQuiet_nil ?_
            intro _ hw'
            obtain ⟨⟨dq, osq⟩, hw''⟩ := hw'
            subst hw''
            have hbq := below_regrown wc dq osq
            clear z0 z1 z2 z3 z4 z5 nk QL QR
            generalize grow (redrawn wc dq) osq = WX at *
            have HJX := hide (HJ0.out.later hbq)
            clear hbq
            go_wp2
            go_meet
            case rel => exact ⟨rfl, HJX.out⟩
          | false =>
            have pBA : lessK (b0, b1, b2) (a0, a1, a2) = true := by
              cases h : lessK (b0, b1, b2) (a0, a1, a2) with
              | true => rfl
              | false => exact absurd (lessK_total _ _ pAB h) HN.out
            clear CL CR
            refine wp_region_quiet_below (by kernel_rfl) (by kernel_rfl) ?_
            repeat (quiet_step (first | (go_at_call 10; exact QL.out _ _ _ _ _ _ _ _) | (go_at_call 11; exact QR.out _ _ _ _ _ _ _ _)))
            refine wpQuiet_nil ?_
            intro _ hw'
            obtain ⟨⟨dq, osq⟩, hw''⟩ := hw'
            subst hw''
            have hbq := below_regrown wc dq osq
            clear z0 z1 z2 z3 z4 z5 nk QL QR
            generalize grow (redrawn wc dq) osq = WX at *
            have HJX := hide (HJ0.out.later hbq)
            clear hbq
            go_wp2
            go_meet
            case rel => exact ⟨rfl, HJX.out⟩
      case rest =>
        obtain ⟨rfl, J2⟩ := hcut
        obtain ⟨⟨z0, z1, z2⟩, ⟨z3, z4, z5⟩, ⟨z6, z7, z8⟩⟩ := J2.1.cells
        have HJ := hide J2
        clear J2
        go_wp2_with fail
        refine (CL.out a0 a1 a2 b0 b1 b2 _ HJ.out).mono ?_
        rintro e W1 ⟨rfl, J3⟩
        clear z0 z1 z2 z3 z4 z5 z6 z7 z8 HJ
        obtain ⟨⟨z0, z1, z2⟩, ⟨z3, z4, z5⟩, ⟨z6, z7, z8⟩⟩ := J3.1.cells
        have HJ := hide J3
        clear J3
        cases pAB : lessK (a0, a1, a2) (b0, b1, b2) with
        | true =>
          go_wp2_with fail
          refine (CL.out b0 b1 b2 c0 c1 c2 _ HJ.out).mono ?_
          rintro e W2 ⟨rfl, J4⟩
          clear z0 z1 z2 z3 z4 z5 z6 z7 z8 HJ
          obtain ⟨⟨z0, z1, z2⟩, ⟨z3, z4, z5⟩, ⟨z6, z7, z8⟩⟩ := J4.1.cells
          have HJ := hide J4
          clear J4
          cases pBC : lessK (b0, b1, b2) (c0, c1, c2) with
          | true =>
            have pAC := lessK_trans _ _ _ pAB pBC
            go_wp2_with fail
            refine (CL.out a0 a1 a2 c0 c1 c2 _ HJ.out).mono ?_
            rintro e W3 ⟨he, J5⟩
            rw [pAC] at he
            subst he
            have HF := hide (H3.out.trans (J5.2.mono H3.out.size))
            clear z0 z1 z2 z3 z4 z5 z6 z7 z8 HJ J5
            go_wp2
            go_ret
            exact ⟨rfl, HF.out⟩
          | false =>
            have HF := hide (H3.out.trans (HJ.out.2.mono H3.out.size))
            clear z0 z1 z2 z3 z4 z5 z6 z7 z8 HJ
            go_wp2
            go_ret
            exact ⟨rfl, HF.out⟩
        | false =>
          have HF := hide (H3.out.trans (HJ.out.2.mono H3.out.size))
          clear z0 z1 z2 z3 z4 z5 z6 z7 z8 HJ
          go_wp2
          go_ret
          exact ⟨rfl, HF.out⟩

theorem own : ownKnob Try.prog.godebug = none := by kernel_rfl
theorem laidOut : laidOutB Try.prog = true := by kernel_rfl

set_option maxRecDepth 100000 in
theorem lifted (os : Os) (started : os.Started) (H : Type) (enc : TypeId × Value → H) :
    ReturnsInHanded {} Try.checked os 3 .any (Rows.mutKeysSpec.pre6 enc Try.prog Try.f3 Rows.mutKeysRow.domain false) (Rows.mutKeysSpec.post enc Try.prog Try.f3 false true false false) := by
  refine returnsInHanded_of_change (C := Try.checked) own started (by kernel_rfl) Try.func3
    (ChangeSpec.witness6 (enc := enc) (C := Try.checked) false ⟨#[], #[.agg #[.int .i64 0, .int .i64 0, .int .i64 0], .agg #[.int .i64 0, .int .i64 0, .int .i64 0], .agg #[.int .i64 0, .int .i64 0, .int .i64 0], .int .i64 0, .int .i64 0, .int .i64 0], []⟩ 8 (by kernel_rfl) (by kernel_rfl) (by kernel_rfl) (by kernel_rfl)) ?_
  intro W base args ds gs before hval0 hW hcnd _
  have hval : ∀ (j : Nat) t v, Try.f3.params[j]? = some t → args[j]? = some v → Value.okWide Try.prog W .any base t v := hval0
  have hW' := hW
  obtain ⟨p, q, hA0, hV, rfl, hfz, hnd⟩ := hW
  have hA : DataW.TrodAll enc Try.prog W 0 (fun _ => true) true Try.f3.params.toList args.toList ds p := hA0
  rw [Try.params3] at hA hval
  obtain ⟨v0, vs0, d0, ds0, p0, q0, hargs, rfl, rfl, h0, r0⟩ := trodAll_cons hA
  obtain ⟨v1, vs1, d1, ds1, p1, q1, rfl, rfl, rfl, h1, r1⟩ := trodAll_cons r0
  obtain ⟨v2, vs2, d2, ds2, p2, q2, rfl, rfl, rfl, h2, r2⟩ := trodAll_cons r1
  obtain ⟨v3, vs3, d3, ds3, p3, q3, rfl, rfl, rfl, h3, r3⟩ := trodAll_cons r2
  obtain ⟨v4, vs4, d4, ds4, p4, q4, rfl, rfl, rfl, h4, r4⟩ := trodAll_cons r3
  obtain ⟨v5, vs5, d5, ds5, p5, q5, rfl, rfl, rfl, h5, r5⟩ := trodAll_cons r4
  obtain ⟨rfl, rfl, rfl⟩ := trodAll_nil r5
  obtain rfl : args = #[v0, v1, v2, v3, v4, v5] := by cases args; simp_all
  obtain ⟨rfl, rfl⟩ := trodVars_none hV
  have k0 := h0
  have lt0 : ∀ x ∈ p0, x.block < W.heap.size := by obtain ⟨m, hm⟩ := k0; exact DataW.trod_lt m _ _ _ hm
  obtain ⟨x0, y0, z0, _, _, _, m0, rfl, _, _, e0, f0, g0⟩ := Joins.open_agg3 Try.underlying23 (by kernel_rfl) (by kernel_rfl) (hval 0 23 v0 rfl rfl) h0
  obtain ⟨ax0, tx0, _, _⟩ := DataW.trod_int Try.underlying3 e0
  simp only [List.cons.injEq, and_true] at tx0; subst tx0
  obtain ⟨ay0, ty0, _, _⟩ := DataW.trod_int Try.underlying3 f0
  simp only [List.cons.injEq, and_true] at ty0; subst ty0
  obtain ⟨az0, tz0, _, _⟩ := DataW.trod_int Try.underlying3 g0
  simp only [List.cons.injEq, and_true] at tz0; subst tz0
  have k1 := h1
  have lt1 : ∀ x ∈ p1, x.block < W.heap.size := by obtain ⟨m, hm⟩ := k1; exact DataW.trod_lt m _ _ _ hm
  obtain ⟨x1, y1, z1, _, _, _, m1, rfl, _, _, e1, f1, g1⟩ := Joins.open_agg3 Try.underlying23 (by kernel_rfl) (by kernel_rfl) (hval 1 23 v1 rfl rfl) h1
  obtain ⟨ax1, tx1, _, _⟩ := DataW.trod_int Try.underlying3 e1
  simp only [List.cons.injEq, and_true] at tx1; subst tx1
  obtain ⟨ay1, ty1, _, _⟩ := DataW.trod_int Try.underlying3 f1
  simp only [List.cons.injEq, and_true] at ty1; subst ty1
  obtain ⟨az1, tz1, _, _⟩ := DataW.trod_int Try.underlying3 g1
  simp only [List.cons.injEq, and_true] at tz1; subst tz1
  have k2 := h2
  have lt2 : ∀ x ∈ p2, x.block < W.heap.size := by obtain ⟨m, hm⟩ := k2; exact DataW.trod_lt m _ _ _ hm
  obtain ⟨x2, y2, z2, _, _, _, m2, rfl, _, _, e2, f2, g2⟩ := Joins.open_agg3 Try.underlying23 (by kernel_rfl) (by kernel_rfl) (hval 2 23 v2 rfl rfl) h2
  obtain ⟨ax2, tx2, _, _⟩ := DataW.trod_int Try.underlying3 e2
  simp only [List.cons.injEq, and_true] at tx2; subst tx2
  obtain ⟨ay2, ty2, _, _⟩ := DataW.trod_int Try.underlying3 f2
  simp only [List.cons.injEq, and_true] at ty2; subst ty2
  obtain ⟨az2, tz2, _, _⟩ := DataW.trod_int Try.underlying3 g2
  simp only [List.cons.injEq, and_true] at tz2; subst tz2
  obtain ⟨a3, rfl, rfl, rfl, w3⟩ := open_int Try.underlying3 (hval 3 3 v3 rfl rfl) h3
  obtain ⟨a4, rfl, rfl, rfl, w4⟩ := open_int Try.underlying3 (hval 4 3 v4 rfl rfl) h4
  obtain ⟨a5, rfl, rfl, rfl, w5⟩ := open_int Try.underlying3 (hval 5 3 v5 rfl rfl) h5
  clear hA0 hval0
  refine (walk ax0 ay0 az0 ax1 ay1 az1 ax2 ay2 az2 a3 a4 a5 W w3 w4 w5).mono fun e W' ⟨he, bel⟩ => ?_
  subst he
  exact ⟨_, rfl, _, _, _, [], _, [], hW', trodAll_mk1 (shut_bool Try.underlying4 _), (trodAll_cons_mk (Below.trod laidOut (by kernel_rfl) (of_decide_eq_true (by kernel_rfl)) k0 bel lt0) (trodAll_cons_mk (Below.trod laidOut (by kernel_rfl) (of_decide_eq_true (by kernel_rfl)) k1 bel lt1) (trodAll_cons_mk (Below.trod laidOut (by kernel_rfl) (of_decide_eq_true (by kernel_rfl)) k2 bel lt2) (trodAll_cons_mk (shut_int Try.underlying3 w3) (trodAll_cons_mk (shut_int Try.underlying3 w4) (trodAll_cons_mk (shut_int Try.underlying3 w5) trodAll_mk0)))))), rfl, bel.frame _, fun h => by cases h⟩

theorem over : Rows.mutKeysRow.holds Try.pinned (OpenSpec.ofChange Rows.mutKeysSpec) :=
  OpenClaim.holds_of_wide 3 Try.f3 rfl rfl rfl rfl rfl rfl rfl ⟨rfl, rfl, rfl, rfl, rfl⟩ rfl rfl rfl rfl rfl (by kernel_rfl) Try.func3 (by kernel_rfl)
    (of_decide_eq_true (by kernel_rfl)) (by unfold Func.isWrapper; first | (rw [if_pos (by decide +kernel)]; kernel_rfl) | (rw [if_neg (by decide +kernel)]; exact ⟨rfl, rfl⟩))
    (fun os started H enc _ => lifted os started H enc)

theorem proved : Rows.MutKeysSaid := over
#print axioms proved
end Go.Proofs.Ytgpfpmocdmeldaa.mutKeys
