/- The statement NumOrder: of numbers that lie one behind the other each is read where the one ahead ended, for all lists of numbers. -/
import Derived.Test.YtjkfobgeklnblaaLawE
import Derived.Test.YtjkfobgeklnblaaBegun
namespace Go.Proofs.Ytjkfobgeklnblaa.numOrder
open Go.ChangeShapes Go.WideShapes Go.ChangeAt Go.RowKit

def encU (l : List Int) : List Int := (l.map fun x => M.numB 9 x.toNat).flatten
def encI (l : List Int) : List Int := (l.map fun x => M.numB 9 (fold x)).flatten
theorem encU_snoc (l : List Int) (k : Nat) (hk : k < l.length) : encU (l.take (k + 1)) = encU (l.take k) ++ M.numB 9 (l[k]?.getD 0).toNat := by
  unfold encU
  rw [List.take_succ_eq_append_getElem hk, List.map_append, List.flatten_append]
  simp [hk]
theorem encI_snoc (l : List Int) (k : Nat) (hk : k < l.length) : encI (l.take (k + 1)) = encI (l.take k) ++ M.numB 9 (fold (l[k]?.getD 0)) := by
  unfold encI
  rw [List.take_succ_eq_append_getElem hk, List.map_append, List.flatten_append]
  simp [hk]
theorem encU_cons (l : List Int) (k : Nat) (hk : k < l.length) : encU (l.drop k) = M.numB 9 (l[k]?.getD 0).toNat ++ encU (l.drop (k + 1)) := by
  rw [drop_at l k _ rfl hk]
  simp [encU]
theorem encI_cons (l : List Int) (k : Nat) (hk : k < l.length) : encI (l.drop k) = M.numB 9 (fold (l[k]?.getD 0)) ++ encI (l.drop (k + 1)) := by
  rw [drop_at l k _ rfl hk]
  simp [encI]

set_option maxRecDepth 100000 in
set_option maxHeartbeats 4000000 in
theorem walk (a : Option Addr) (n c : Nat) (z : List Int) (a' : Option Addr) (n' c' : Nat) (z' : List Int) (w : World) (h : Row .u64 w a n c z) (h' : Row .i64 w a' n' c' z') :
    Calls Try.prog 8 #[.slice a n c, .slice a' n' c'] w fun e w' => e = .returned (.bool true) ∧ Below w.heap.size w w' := by
  have HB := hide h
  have HB' := hide h'
  have hc1 := h.2.1
  have hc2 := h.2.2.1
  have hc1' := h'.2.1
  have hc2' := h'.2.2.1
  clear h h'
  go_enter Try.func8, Try.ntmps8
  go_wp2_with fail
  refine (begun_true _).mono ?_
  rintro e w1 ⟨rfl, hb1⟩
  have H1 := hide hb1
  obtain ⟨j, l, hj12, hjn, hj1, hj2, hr⟩ := row_min (HB.out.later hb1 (Nat.le_refl _)) 12
  obtain ⟨j', l', hj12', hjn', hj1', hj2', hr'⟩ := row_min (HB'.out.later hb1 (Nat.le_refl _)) 12
  have s1 := fun W => run_uptoU a n c j (j : Int) rfl (by omega) W
  have s2 := fun W => run_uptoI a' n' c' j' (j' : Int) rfl (by omega) W
  have m1 : (if (12 : Int) < (n : Int) then (12 : Int) else (n : Int)) = (j : Int) := by
    by_cases hh : n ≤ 12
    · have := hj1 hh; rw [if_neg (by omega)]; omega
    · have := hj2 hh; rw [if_pos (by omega)]; omega
  have m2 : (if (12 : Int) < (n' : Int) then (12 : Int) else (n' : Int)) = (j' : Int) := by
    by_cases hh : n' ≤ 12
    · have := hj1' hh; rw [if_neg (by omega)]; omega
    · have := hj2' hh; rw [if_pos (by omega)]; omega
  clear hj1 hj2 hj1' hj2'
  have R1 := hide hr
  have R1' := hide hr'
  clear hb1 HB HB' hr hr'
  go_wp2
  go_region
  have hbd : Below w1.heap.size w1 w1.drew := (Below.refl _ _).drew
  have R2 := hide (R1.out.later hbd (Nat.le_refl _))
  have R2' := hide (R1'.out.later hbd (Nat.le_refl _))
  have H2 := hide (H1.out.trans (hbd.mono H1.out.size))
  generalize w1.drew = W0 at *
  have hl := R2.out.1
  have hl' := R2'.out.1
  have HLl := hide hl
  have HLl' := hide hl'
  clear hbd R1 R1' H1 m1 m2 s1 s2 hl hl'
  go_wp2
  go_loopw [6, 32] (fun b i wr => ∃ (k q qc : Nat) (qa : Option Addr) (X : List Int), k ≤ j ∧ i = .int .i64 k ∧ b = .slice qa q qc ∧ q ≤ 10 * k ∧ Bs wr qa q qc X ∧ Hid (X = encU (l.take k)) ∧ Below W0.heap.size W0 wr) (fun _ i _ => j - (intOf i).toNat)
  case atStart => exact ⟨0, 0, 0, none, [], by omega, rfl, rfl, by omega, Bs.nil _, rfl, Below.refl _ _⟩
  case round =>
    obtain ⟨k, q, qc, qa, X, hk, rfl, rfl, hq, hbs, HX, hbel⟩ := hrel
    by_cases hlt : k < j
    · obtain ⟨rb, ro, rfl, hcell⟩ := (R2.out.later hbel (Nat.le_refl _)).2.2.2.2.1 (by omega)
      have hck := hcell k hlt
      have hwf := wf_u64 (R2.out.2.2.2.2.2 (l[k]?.getD 0) (by
        have : k < l.length := by rw [HLl.out]; exact hlt
        simp [this]))
      obtain ⟨m, hm⟩ := Int.eq_ofNat_of_zero_le hwf.1
      have hm64 : m < 18446744073709551616 := by omega
      have HE := hide (encU_snoc l k (by rw [HLl.out]; exact hlt))
      rw [hm, Int.toNat_natCast] at HE
      have HP := hide (put_bs qa q qc m X wr hbs (by omega) hm64)
      clear hcell hbs
      go_wp2_with fail
      refine HP.out.mono ?_
      rintro e w2 ⟨g2, d2, k2, c2, X2, rfl, HX2, HD2, hk2, hk2', hd2, hd2', hc2, hc2', hbs2, hb2⟩
      have R := hbel.trans (hb2.mono hbel.size)
      clear HP hb2 hbel hc2 hc2'
      go_wp2
      go_roundw
      case rel => exact ⟨k + 1, k2, c2, _, X2, by omega, by go_num, rfl, by omega, hbs2, by show _ = _; rw [HE.out, HX2.out, HX.out], R⟩
      case measure => simp [intOf]; omega
    · obtain rfl : k = j := by omega
      rw [List.take_of_length_le (by rw [HLl.out]; exact Nat.le_refl _)] at HX
      have H3 := hide (H2.out.trans (hbel.mono H2.out.size))
      have R3 := hide (R2.out.later hbel (Nat.le_refl _))
      have R3' := hide (R2'.out.later hbel (Nat.le_refl _))
      obtain ⟨E, HE⟩ : ∃ E, Hid (E = encU l) := ⟨_, rfl⟩
      have HXE : Hid (X = E) := by rw [HE.out]; exact HX
      clear H2 R2 R2' hbel HX
      obtain ⟨W1, rfl⟩ : ∃ V, V = wr := ⟨wr, rfl⟩
      go_wp2
      go_loopw [6, 44] (fun b i w3 => ∃ (kk q qc : Nat) (qa : Option Addr) (X : List Int), kk ≤ j' ∧ i = .int .i64 kk ∧ b = .slice qa q qc ∧ q ≤ 120 + 10 * kk ∧ Bs w3 qa q qc X ∧ Hid (X = E ++ encI (l'.take kk)) ∧ Below W1.heap.size W1 w3) (fun _ i _ => j' - (intOf i).toNat)
      case atStart => exact ⟨0, q, qc, qa, X, by omega, rfl, rfl, by omega, hbs, by show _ = _; rw [HXE.out]; simp [encI], Below.refl _ _⟩
      case round =>
        obtain ⟨kk, q, qc, qa, X, hkk, rfl, rfl, hq, hbs, HX, hbel⟩ := hrel
        by_cases hlt : kk < j'
        · obtain ⟨rb, ro, rfl, hcell⟩ := (R3'.out.later hbel (Nat.le_refl _)).2.2.2.2.1 (by omega)
          have hck := hcell kk hlt
          have hwf := wf_i64 (R3'.out.2.2.2.2.2 (l'[kk]?.getD 0) (by
            have : kk < l'.length := by rw [HLl'.out]; exact hlt
            simp [this]))
          have HE2 := hide (encI_snoc l' kk (by rw [HLl'.out]; exact hlt))
          have HP := hide (putInt_bs qa q qc (l'[kk]?.getD 0) X wr hbs (by omega) hwf.1 hwf.2)
          clear hcell hbs
          go_wp2_with fail
          refine HP.out.mono ?_
          rintro e w2 ⟨g2, d2, k2, c2, X2, rfl, HX2, HD2, hk2, hk2', hd2, hd2', hc2, hc2', hbs2, hb2⟩
          have R := hbel.trans (hb2.mono hbel.size)
          clear HP hb2 hbel hc2 hc2'
          go_wp2
          go_roundw
          case rel => exact ⟨kk + 1, k2, c2, _, X2, by omega, by go_num, rfl, by omega, hbs2, by show _ = _; rw [HE2.out, HX2.out, HX.out, List.append_assoc], R⟩
          case measure => simp [intOf]; omega
        · obtain rfl : kk = j' := by omega
          rw [List.take_of_length_le (by rw [HLl'.out]; exact Nat.le_refl _)] at HX
          have H4 := hide (H3.out.trans (hbel.mono H3.out.size))
          have R4 := hide (R3.out.later hbel (Nat.le_refl _))
          have R4' := hide (R3'.out.later hbel (Nat.le_refl _))
          have HXA : Hid (X = encU (l.drop 0) ++ encI l') := by show _ = _; rw [HX.out, HE.out]; simp
          have hqq : q ≤ 240 := by omega
          clear H3 R3 R3' hbel HX hq
          obtain ⟨W2, rfl⟩ : ∃ V, V = wr := ⟨wr, rfl⟩
          go_wp2
          go_loop [6, 56] (fun b i => ∃ (k3 q qc : Nat) (qa : Option Addr) (X : List Int), k3 ≤ k ∧ i = .int .i64 k3 ∧ b = .slice qa q qc ∧ q ≤ 240 ∧ Bs W2 qa q qc X ∧ Hid (X = encU (l.drop k3) ++ encI l')) (fun _ i => k - (intOf i).toNat)
          case atStart => exact ⟨0, q, qc, qa, X, by omega, rfl, rfl, hqq, hbs, HXA⟩
          case round =>
            obtain ⟨k3, q, qc, qa, X, hk3, rfl, rfl, hq, hbs, HX⟩ := hrel
            by_cases hlt : k3 < k
            · obtain ⟨rb, ro, rfl, hcell⟩ := R4.out.2.2.2.2.1 (by omega)
              have hck := hcell k3 hlt
              have hwf := wf_u64 (R4.out.2.2.2.2.2 (l[k3]?.getD 0) (by
                have : k3 < l.length := by rw [HLl.out]; exact hlt
                simp [this]))
              obtain ⟨m, hm⟩ := Int.eq_ofNat_of_zero_le hwf.1
              have hm64 : m < 18446744073709551616 := by omega
              have HE3 := hide (encU_cons l k3 (by rw [HLl.out]; exact hlt))
              rw [hm, Int.toNat_natCast] at HE3
              have HX2 : Hid (X = M.numB 9 m ++ (encU (l.drop (k3 + 1)) ++ encI l')) := by show _ = _; rw [HX.out, HE3.out, List.append_assoc]
              have G := get_any _ _ _ _ _ hbs
              obtain ⟨d, HD⟩ : ∃ d, Hid (d = (M.numB 9 m).length) := ⟨_, rfl⟩
              have e1 : M.getL 0 0 X = (m, d, 0) := by rw [HX2.out, M.getL_put m _ hm64, HD.out]
              rw [e1] at G
              have HG := hide G
              have hd := M.numB_len 9 m
              rw [← HD.out] at hd
              have hdq : d ≤ q := by
                rw [← hbs.1, HX2.out, List.length_append, HD.out]; omega
              have hd1 := hd.1
              have HN := hide (hbs.fromAt d (q - d) hdq rfl)
              have eN : X.drop d = encU (l.drop (k3 + 1)) ++ encI l' := by rw [HX2.out, HD.out]; simp
              rw [eN] at HN
              have sN := fun W => run_fromA qa q qc d (q - d) (d : Int) rfl hdq rfl W
              clear hcell e1 G hd eN HE3 HX hbs
              go_wp2_with fail
              refine HG.out.mono ?_
              rintro e w3 ⟨rfl, rfl⟩
              go_wp2
              go_round
              case rel => exact ⟨k3 + 1, q - d, qc - d, cutA qa qc d, _, by omega, by go_num, rfl, by omega, HN.out, rfl⟩
              case measure => simp [intOf]; omega
            · obtain rfl : k3 = k := by omega
              have HXB : Hid (X = encI (l'.drop 0)) := by
                show _ = _
                rw [HX.out, List.drop_of_length_le (by rw [HLl.out]; exact Nat.le_refl _)]
                simp [encU]
              clear HX HXA
              go_wp2
              go_loop [6, 91] (fun b i => ∃ (k4 q qc : Nat) (qa : Option Addr) (X : List Int), k4 ≤ kk ∧ i = .int .i64 k4 ∧ b = .slice qa q qc ∧ q ≤ 240 ∧ Bs W2 qa q qc X ∧ Hid (X = encI (l'.drop k4))) (fun _ i => kk - (intOf i).toNat)
              case atStart => exact ⟨0, q, qc, qa, X, by omega, rfl, rfl, by omega, hbs, HXB⟩
              case round =>
                obtain ⟨k4, q, qc, qa, X, hk4, rfl, rfl, hq, hbs, HX⟩ := hrel
                by_cases hlt : k4 < kk
                · obtain ⟨rb, ro, rfl, hcell⟩ := R4'.out.2.2.2.2.1 (by omega)
                  have hck := hcell k4 hlt
                  have hwf := wf_i64 (R4'.out.2.2.2.2.2 (l'[k4]?.getD 0) (by
                    have : k4 < l'.length := by rw [HLl'.out]; exact hlt
                    simp [this]))
                  have HE3 := hide (encI_cons l' k4 (by rw [HLl'.out]; exact hlt))
                  have HX2 : Hid (X = M.numB 9 (fold (l'[k4]?.getD 0)) ++ encI (l'.drop (k4 + 1))) := by show _ = _; rw [HX.out, HE3.out]
                  have G := getInt_any _ _ _ _ _ hbs
                  obtain ⟨d, HD⟩ : ∃ d, Hid (d = (M.numB 9 (fold (l'[k4]?.getD 0))).length) := ⟨_, rfl⟩
                  have e1 : getI X = (l'[k4]?.getD 0, d, 0) := by rw [HX2.out, getI_put _ _ hwf.1 hwf.2, HD.out]
                  rw [e1] at G
                  have HG := hide G
                  have hd := M.numB_len 9 (fold (l'[k4]?.getD 0))
                  rw [← HD.out] at hd
                  have hdq : d ≤ q := by
                    rw [← hbs.1, HX2.out, List.length_append, HD.out]; omega
                  have hd1 := hd.1
                  have HN := hide (hbs.fromAt d (q - d) hdq rfl)
                  have eN : X.drop d = encI (l'.drop (k4 + 1)) := by rw [HX2.out, HD.out]; simp
                  rw [eN] at HN
                  have sN := fun W => run_fromA qa q qc d (q - d) (d : Int) rfl hdq rfl W
                  clear hcell e1 G hd eN HE3 HX hbs
                  go_wp2_with fail
                  refine HG.out.mono ?_
                  rintro e w3 ⟨rfl, rfl⟩
                  go_wp2
                  go_round
                  case rel => exact ⟨k4 + 1, q - d, qc - d, cutA qa qc d, _, by omega, by go_num, rfl, by omega, HN.out, rfl⟩
                  case measure => simp [intOf]; omega
                · obtain rfl : k4 = kk := by omega
                  have hq0 : q = 0 := by
                    rw [← hbs.1, HX.out, List.drop_of_length_le (by rw [HLl'.out]; exact Nat.le_refl _)]
                    rfl
                  subst hq0
                  go_wp2
                  go_ret
                  exact ⟨rfl, H4.out⟩

theorem own : ownKnob Try.prog.godebug = none := by kernel_rfl
theorem laidOut : laidOutB Try.prog = true := by kernel_rfl

set_option maxRecDepth 100000 in
theorem lifted (os : Os) (started : os.Started) (H : Type) (enc : TypeId × Value → H) :
    ReturnsInHanded {} Try.checked os 8 .any (Rows.numOrderSpec.pre6 enc Try.prog Try.f8 Rows.numOrderRow.domain false) (Rows.numOrderSpec.post enc Try.prog Try.f8 false true false false) := by
  refine returnsInHanded_of_change (C := Try.checked) own started (by kernel_rfl) Try.func8
    (ChangeSpec.witness6 (enc := enc) (C := Try.checked) false ⟨#[], #[.slice none 0 0, .slice none 0 0], []⟩ 8 (by kernel_rfl) (by kernel_rfl) (by kernel_rfl) (by kernel_rfl)) ?_
  intro W base args ds gs before hval0 hW hcnd _
  have hval : ∀ (j : Nat) t v, Try.f8.params[j]? = some t → args[j]? = some v → Value.okWide Try.prog W .any base t v := hval0
  have hW' := hW
  obtain ⟨p, q, hA0, hV, rfl, hfz, hnd⟩ := hW
  have hA : DataW.TrodAll enc Try.prog W 0 (fun _ => true) true Try.f8.params.toList args.toList ds p := hA0
  rw [Try.params8] at hA hval
  obtain ⟨v0, vs0, d0, ds0, p0, q0, hargs, rfl, rfl, h0, r0⟩ := trodAll_cons hA
  obtain ⟨v1, vs1, d1, ds1, p1, q1, rfl, rfl, rfl, h1, r1⟩ := trodAll_cons r0
  obtain ⟨rfl, rfl, rfl⟩ := trodAll_nil r1
  obtain rfl : args = #[v0, v1] := by cases args; simp_all
  obtain ⟨rfl, rfl⟩ := trodVars_none hV
  obtain ⟨a0, n0, c0, rfl⟩ := okWide_slice Try.underlying58 (hval 0 58 v0 rfl rfl)
  have k0 := h0
  have lt0 : ∀ x ∈ p0, x.block < W.heap.size := by obtain ⟨m, hm⟩ := k0; exact DataW.trod_lt m _ _ _ hm
  obtain ⟨z0, w0⟩ : ∃ zs, Row .u64 W a0 n0 c0 zs := by
    obtain ⟨fuel, hf⟩ := h0
    rcases open_ints Try.underlying58 Try.underlying22 (by kernel_rfl) hf with ⟨hcs, _⟩ | ⟨x, l, c, zs, hcs, _, hl, hm, hz, _, hcell, hwz⟩
    · simp [Value.cells] at hcs; obtain ⟨rfl, rfl, rfl⟩ := hcs; exact ⟨[], row_none _ _⟩
    · simp [Value.cells] at hcs; obtain ⟨rfl, rfl, rfl⟩ := hcs; exact ⟨_, row_some hl hm (by simpa using hz) hcell hwz⟩
  obtain ⟨a1, n1, c1, rfl⟩ := okWide_slice Try.underlying59 (hval 1 59 v1 rfl rfl)
  have k1 := h1
  have lt1 : ∀ x ∈ p1, x.block < W.heap.size := by obtain ⟨m, hm⟩ := k1; exact DataW.trod_lt m _ _ _ hm
  obtain ⟨z1, w1⟩ : ∃ zs, Row .i64 W a1 n1 c1 zs := by
    obtain ⟨fuel, hf⟩ := h1
    rcases open_ints Try.underlying59 Try.underlying2 (by kernel_rfl) hf with ⟨hcs, _⟩ | ⟨x, l, c, zs, hcs, _, hl, hm, hz, _, hcell, hwz⟩
    · simp [Value.cells] at hcs; obtain ⟨rfl, rfl, rfl⟩ := hcs; exact ⟨[], row_none _ _⟩
    · simp [Value.cells] at hcs; obtain ⟨rfl, rfl, rfl⟩ := hcs; exact ⟨_, row_some hl hm (by simpa using hz) hcell hwz⟩
  clear hA0 hval0
  refine (walk a0 n0 c0 z0 a1 n1 c1 z1 W w0 w1).mono fun e W' ⟨he, bel⟩ => ?_
  subst he
  exact ⟨_, rfl, _, _, _, [], _, [], hW', trodAll_mk1 (shut_bool Try.underlying4 _), (trodAll_cons_mk (Below.trod laidOut (by kernel_rfl) (of_decide_eq_true (by kernel_rfl)) k0 bel lt0) (trodAll_cons_mk (Below.trod laidOut (by kernel_rfl) (of_decide_eq_true (by kernel_rfl)) k1 bel lt1) trodAll_mk0)), rfl, bel.frame _, fun h => by cases h⟩

theorem over : Rows.numOrderRow.holds Try.pinned (OpenSpec.ofChange Rows.numOrderSpec) :=
  OpenClaim.holds_of_wide 8 Try.f8 rfl rfl rfl rfl rfl rfl rfl ⟨rfl, rfl, rfl, rfl, rfl⟩ rfl rfl rfl rfl rfl (by kernel_rfl) Try.func8 (by kernel_rfl)
    (of_decide_eq_true (by kernel_rfl)) (by unfold Func.isWrapper; first | (rw [if_pos (by decide +kernel)]; kernel_rfl) | (rw [if_neg (by decide +kernel)]; exact ⟨rfl, rfl⟩))
    (fun os started H enc _ => lifted os started H enc)

theorem proved : Rows.NumOrderSaid := over
#print axioms proved
end Go.Proofs.Ytjkfobgeklnblaa.numOrder
