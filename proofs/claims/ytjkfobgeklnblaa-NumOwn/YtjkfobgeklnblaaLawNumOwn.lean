/- The statement NumOwn: what stands behind the end of what one writes behind is not touched, for all bytes, numbers and texts. -/
import Derived.Test.YtjkfobgeklnblaaFrameM
import Derived.Test.YtjkfobgeklnblaaLawE
import Derived.Test.YtjkfobgeklnblaaMut3
import Derived.Test.YtjkfobgeklnblaaBegun
import Derived.Laws.IdiomStrings
namespace Go.Proofs.Ytjkfobgeklnblaa.numOwn
open Go.ChangeShapes Go.WideShapes Go.ChangeAt Go.RowKit

theorem bs_str (w : World) (t : ByteArray) (mk : Nat × Nat) (ht : t.size ≤ 1000) : Bs (w.drew.alloc (.cells (bytesRow t (grownCap w t.size 0 5)) 5 mk)) (some ⟨w.heap.size, 0, none⟩) t.size (grownCap w t.size 0 5) (sB t) := by
  have h1 := grownCap_ge w t.size 0 5
  have h2 := grownCap_le_maxLen w t.size 0 5 (by simp [maxLen]; omega)
  have hh := heap_alloc_new w.drew (.cells (bytesRow t (grownCap w t.size 0 5)) 5 mk)
  refine ⟨sB_len t, h1, by simpa [maxLen] using h2, (fun e => by cases e), fun _ => ⟨w.heap.size, 0, rfl, fun i hi => ?_⟩, sB_range t⟩
  have hb := bytesRow_at t (grownCap w t.size 0 5) i (by simpa using hi)
  have hw : w.drew.heap.size = w.heap.size := rfl
  rw [hw] at hh
  rw [Nat.zero_add]
  simp only [World.cell?, hh]
  rw [hb]
  have hi' : i < t.data.size := by simpa using hi
  simp [sB]
  rw [Array.getElem?_eq_getElem hi']
  rfl

theorem three_cells {w : World} {g : Nat} {x y z : Value} {T : TypeId} {mk : Nat × Nat} (h : w.heap[g]? = some (.cells #[x, y, z] T mk)) : w.cell? ⟨g, 0, none⟩ = some x ∧ w.cell? ⟨g, 1, none⟩ = some y ∧ w.cell? ⟨g, 2, none⟩ = some z := by
  refine ⟨?_, ?_, ?_⟩ <;> simp [World.cell?, h]

theorem made4 (w : World) : Bs (w.alloc (.cells (madeCells #[.int .u8 0] 64) 5)) (some ⟨w.heap.size, 0, none⟩) 4 64 [0, 0, 0, 0] := by
  have hh := heap_alloc_new w (.cells (madeCells #[.int .u8 0] 64) 5)
  have hm : (madeCells #[.int .u8 0] 64).toList = List.replicate 64 (Value.int .u8 0) := toList_madeCells_one _ _
  refine ⟨rfl, by omega, by omega, (fun e => by cases e), fun _ => ⟨w.heap.size, 0, rfl, fun i hi => ?_⟩, by simp⟩
  have e : (madeCells #[.int .u8 0] 64)[i]? = some (Value.int .u8 0) := by
    rw [← Array.getElem?_toList, hm, List.getElem?_replicate, if_pos (by omega)]
  rw [Nat.zero_add]
  simp only [World.cell?, hh, e]
  rcases (show i = 0 ∨ i = 1 ∨ i = 2 ∨ i = 3 by omega) with rfl | rfl | rfl | rfl <;> rfl

set_option maxRecDepth 100000 in
set_option maxHeartbeats 4000000 in
theorem walk (a : Option Addr) (n c : Nat) (z : List Int) (n0 x : Int) (s : ByteArray) (w : World) (h : Row .u8 w a n c z) (w1 : (Lit.int .u64 n0).wf = true) (w2 : (Lit.int .i64 x).wf = true) (w3 : s.size ≤ maxLen) :
    Calls Try.prog 9 #[.slice a n c, .int .u64 n0, .int .i64 x, .string s] w fun e w' => e = .returned (.bool true) ∧ Below w.heap.size w w' := by
  have hx := wf_i64 w2
  have hn0 := wf_u64 w1
  obtain ⟨m, rfl⟩ := Int.eq_ofNat_of_zero_le hn0.1
  have hm : m < 18446744073709551616 := by omega
  obtain ⟨i0, hi0, hz0, hz1, hz2⟩ := info_parts infoB
  have hmk : ∀ w : World, (Instr.makeSlice 23 (.int .i64 4) (.int .i64 64)).run Try.prog w = .ok (.slice (some ⟨w.heap.size, 0, none⟩) 4 64) (w.alloc (.cells (madeCells #[.int .u8 0] 64) 5)) := by
    intro w
    have := run_make (P := Try.prog) w 23 5 i0 _ Try.underlying23 hi0 hz0 .i64 .i64 4 64 (by omega) (by omega) (by rw [hz2]; omega) (by omega)
    rw [this, hz1]
    rfl
  have HMK := hide hmk
  have HB := hide h.bs
  unfold maxLen at w3
  clear w1 w2 h hn0 hi0 hz0 hz1 hz2 hmk
  go_enter Try.func9, Try.ntmps9
  go_wp2_with fail
  refine (begun_true _).mono ?_
  rintro e w1 ⟨rfl, hb1⟩
  have H1 := hide hb1
  have HB1 := hide (HB.out.later hb1 (Nat.le_refl _))
  clear hb1 HB
  go_wp2_with fail
  refine (short_any _ _ _ 30 _ _ _ HB1.out (by omega) (by rfl)).mono ?_
  rintro e w1' ⟨k, L, rfl, rfl, hkn, hk4, HL, hbs⟩
  have T1 := hide hbs
  have HKC := hbs.2.1
  clear HB1 hbs HL
  go_wp2_with fail
  refine (text_any s 20 _ _ w3 (by omega) (by rfl)).mono ?_
  rintro e w1'' ⟨t, rfl, rfl, ht, Ht⟩
  clear Ht
  obtain ⟨h2, hh2, hh2k⟩ : ∃ h2 : Nat, (k : Int) / 2 = (h2 : Int) ∧ h2 ≤ k := ⟨k / 2, by omega, by omega⟩
  have hg := heap_alloc_new w1'' (.cells #[.int .i64 0, .int .i64 (h2 : Int), .int .i64 (k : Int)] 3)
  have hba := below_alloc w1'' (.cells #[.int .i64 0, .int .i64 (h2 : Int), .int .i64 (k : Int)] 3) w1''.heap.size (Nat.le_refl _)
  have T2 := hide (T1.out.later hba (Nat.le_refl _))
  have H2 := hide (H1.out.trans (hba.mono H1.out.size))
  have HG := hide hg
  clear hg hba T1 H1
  go_wp2
  generalize w1''.alloc (.cells #[.int .i64 0, .int .i64 (h2 : Int), .int .i64 (k : Int)] 3) = W0 at *
  clear hh2
  go_loopw [36] (fun i wr => ∃ j : Nat, j ≤ 3 ∧ i = .int .i64 j ∧ Hid (Below W0.heap.size W0 wr)) (fun i _ => 3 - (intOf i).toNat)
  case atStart => exact ⟨0, by omega, rfl, Below.refl _ _⟩
  case round =>
    obtain ⟨j, hj, rfl, HBe⟩ := hrel
    by_cases hlt : j < 3
    · obtain ⟨q, hq, hcell⟩ : ∃ q : Nat, q ≤ k ∧ wr.cell? ⟨w1''.heap.size, j, none⟩ = some (.int .i64 (q : Int)) := by
        obtain ⟨c0, c1, c2⟩ := three_cells ((HBe.out.block _ (lt_of_heap HG.out)).trans HG.out)
        rcases (show j = 0 ∨ j = 1 ∨ j = 2 by omega) with rfl | rfl | rfl
        · exact ⟨0, by omega, c0⟩
        · exact ⟨h2, hh2k, c1⟩
        · exact ⟨k, Nat.le_refl _, c2⟩
      have T3 := hide (T2.out.later HBe.out (Nat.le_refl _))
      have H3 := hide (H2.out.trans (HBe.out.mono H2.out.size))
      have hlen := T3.out.1
      go_wp2_with (at_builtin; refine wpList_app rfl (.const (.slice none 0 0)) (.tmp 40) rfl wr.heap.size _ [] rfl (World.ownsInts_nil _ _ _ _) a _ c L rfl T3.out (by simp; omega) (Nat.le_refl _) ?_)
      intro v4 w4 ho4 hg4 _
      have hb4 := below_app (World.ownsInts_nil wr wr.heap.size 5 .u8) hg4 (Nat.le_refl _)
      obtain ⟨a4, c4, rfl, hbs4⟩ := owns_bs ho4 hlen
      have hqc : q ≤ c4 := Nat.le_trans hq hbs4.2.1
      have s1 := fun W => run_uptoA a4 k c4 q (q : Int) rfl hqc W
      have s2 := fun W => run_uptoA a k c q (q : Int) rfl (by omega) W
      have C4 := hide (hbs4.take q hq)
      have B4 := hide (T3.out.later hb4 (Nat.le_refl _))
      have E4 := hide (HBe.out.trans (hb4.mono HBe.out.size))
      clear ho4 hg4 hb4 hbs4 T3 hlen hcell
      go_wp2_with fail
      refine (put_any a4 q c4 m _ w4 C4.out (by omega) hm).mono ?_
      rintro e w5 ⟨v5, rfl, _, hb5⟩
      have C5 := hide (C4.out.later hb5 (Nat.le_refl _))
      have B5 := hide (B4.out.later hb5 (Nat.le_refl _))
      have E5 := hide (E4.out.trans (hb5.mono E4.out.size))
      clear hb5 C4 B4 E4
      go_wp2_with fail
      refine (putInt_any a4 q c4 x _ w5 C5.out (by omega) hx.1 hx.2).mono ?_
      rintro e w6 ⟨v6, rfl, _, hb6⟩
      have C6 := hide (C5.out.later hb6 (Nat.le_refl _))
      have B6 := hide (B5.out.later hb6 (Nat.le_refl _))
      have E6 := hide (E5.out.trans (hb6.mono E5.out.size))
      clear hb6 C5 B5 E5
      go_wp2_with fail
      refine (numText_any a4 q c4 t _ w6 C6.out (by omega) (by omega)).mono ?_
      rintro e w7 ⟨v7, rfl, _, hb7⟩
      have C7 := hide (C6.out.later hb7 (Nat.le_refl _))
      have B7 := hide (B6.out.later hb7 (Nat.le_refl _))
      have E7 := hide (E6.out.trans (hb7.mono E6.out.size))
      clear hb7 C6 B6 E6
      have cvs := run_bytes_of_string (P := Try.prog) w7 9 23 5 t Try.underlying9 Try.underlying23 Try.underlying5
      have hst := bs_str w7 t ((bytesRow t (grownCap w7 t.size 0 5)).size, (bytesRow t (grownCap w7 t.size 0 5)).size + 1) (by omega)
      have hbst := (Below.refl w7.heap.size w7).drew.alloc (Nat.le_refl _) (.cells (bytesRow t (grownCap w7 t.size 0 5)) 5 ((bytesRow t (grownCap w7 t.size 0 5)).size, (bytesRow t (grownCap w7 t.size 0 5)).size + 1))
      have hsz8 : (w7.drew.alloc (.cells (bytesRow t (grownCap w7 t.size 0 5)) 5 ((bytesRow t (grownCap w7 t.size 0 5)).size, (bytesRow t (grownCap w7 t.size 0 5)).size + 1))).heap.size = w7.heap.size + 1 := by simp
      generalize w7.drew.alloc (.cells (bytesRow t (grownCap w7 t.size 0 5)) 5 ((bytesRow t (grownCap w7 t.size 0 5)).size, (bytesRow t (grownCap w7 t.size 0 5)).size + 1)) = W8 at *
      generalize grownCap w7 t.size 0 5 = cp at *
      have C8 := hide (C7.out.later hbst (Nat.le_refl _))
      have B8 := hide (B7.out.later hbst (Nat.le_refl _))
      have E8 := hide (E7.out.trans (hbst.mono E7.out.size))
      have HPF := hide (framePut_one a4 q c4 _ _ _ _ _ W8 C8.out hst (by omega) (by omega))
      clear hst hbst C7 B7 E7 hsz8
      go_wp2_with fail
      refine HPF.out.mono ?_
      rintro e w9 ⟨g9, d9, k9, c9, X9, rfl, _, _, _, _, _, _, _, _, _, _, hb9⟩
      have C9 := hide (C8.out.later hb9 (Nat.le_refl _))
      have B9 := hide (B8.out.later hb9 (Nat.le_refl _))
      have E9 := hide (E8.out.trans (hb9.mono E8.out.size))
      clear hb9 C8 B8 E8 HPF cvs
      have hbm := below_alloc w9 (sObj x) w9.heap.size (Nat.le_refl _)
      have hgm := heap_alloc_new w9 (sObj x)
      have HPM := hide (mutPut_s x hx.1 hx.2 a4 q c4 _ w9.heap.size _ (C9.out.later hbm (Nat.le_refl _)) (by omega) hgm)
      have CA := hide (C9.out.later hbm (Nat.le_refl _))
      have BA := hide (B9.out.later hbm (Nat.le_refl _))
      have EA := hide (E9.out.trans (hbm.mono E9.out.size))
      unfold sObj at HPM CA BA EA
      clear hbm hgm C9 B9 E9
      go_wp2_with fail
      generalize w9.alloc (.cells #[.int .i64 1, .int .i64 0, .int .i64 0, .int .i64 0, .int .i64 0, .int .i64 x] 65 (0, 0)) = WA at *
      refine HPM.out.mono ?_
      rintro e wB ⟨vB, rfl, _, hbB⟩
      have CB := CA.out.later hbB (Nat.le_refl _)
      have BB := BA.out.later hbB (Nat.le_refl _)
      have EB := hide (EA.out.trans (hbB.mono EA.out.size))
      have hbd : Below wB.heap.size wB wB.drew := (Below.refl _ _).drew
      have SM := hide (same_any _ _ _ _ _ _ _ _ _ (CB.later hbd (Nat.le_refl _)) ((BB.take q hq).later hbd (Nat.le_refl _)) true (by simp))
      have ED := hide (EB.out.trans (hbd.mono EB.out.size))
      clear hbB CA BA EA CB BB HPM hbd
      go_wp2
      go_region_with ((go_at_call 19; (refine SM.out.mono ?_; rintro e wC ⟨rfl, rfl⟩)))
      all_goals
        go_wp2
        go_roundw
        case rel => exact ⟨j + 1, by omega, by go_num, ED⟩
        case measure => simp [intOf]; omega
    · have H3 := hide (H2.out.trans (HBe.out.mono H2.out.size))
      have hmk := HMK.out
      have M4 := hide (made4 wr)
      have hbm := below_alloc wr (.cells (madeCells #[.int .u8 0] 64) 5) wr.heap.size (Nat.le_refl _)
      have H4 := hide (H3.out.trans (hbm.mono H3.out.size))
      obtain ⟨m1, hm1, hm1l⟩ : ∃ m1 : Nat, IntKind.u64.wrap ((m : Int) + 1) = (m1 : Int) ∧ m1 < 18446744073709551616 := ⟨(m + 1) % 18446744073709551616, by rw [IntKind.wrap_u64]; omega, by omega⟩
      clear H3 hbm
      go_wp2_with fail
      generalize wr.alloc (.cells (madeCells #[.int .u8 0] 64) 5) = W4 at *
      clear hmk
      refine (put_bs _ 4 64 m _ W4 M4.out (by omega) hm).mono ?_
      rintro e w5 ⟨g5, d5, k5, c5, X5, rfl, HX5, HD5, hk5, hk5', hd5, hd5', hc5, hc5', hbs5, hb5⟩
      have M5 := hide (M4.out.later hb5 (Nat.le_refl _))
      have H5 := hide (H4.out.trans (hb5.mono H4.out.size))
      have P5 := hide hbs5
      clear hb5 hbs5 M4 H4
      have HP6 := hide (put_bs _ 4 64 m1 _ w5 M5.out (by omega) hm1l)
      go_wp2_with fail
      refine HP6.out.mono ?_
      rintro e w6 ⟨g6, d6, k6, c6, X6, rfl, HX6, HD6, hk6, hk6', hd6, hd6', hc6, hc6', hbs6, hb6⟩
      have H6 := hide (H5.out.trans (hb6.mono H5.out.size))
      have P6 := hide (P5.out.later hb6 (Nat.le_refl _))
      have Q6 := hide hbs6
      have s1 := fun W => run_from g5 0 k5 c5 4 d5 (4 : Int) rfl (by omega) (by omega) (by omega) W
      have s2 := fun W => run_from g6 0 k6 c6 4 d6 (4 : Int) rfl (by omega) (by omega) (by omega) W
      have D5 := hide (P6.out.drop 4 d5 (by omega) (by omega))
      have D6 := hide (Q6.out.drop 4 d6 (by omega) (by omega))
      have e5 : X5.drop 4 = M.numB 9 m ++ [] := by rw [HX5.out]; simp
      have e6 : X6.drop 4 = M.numB 9 m1 ++ [] := by rw [HX6.out]; simp
      rw [e5, Nat.zero_add] at D5
      rw [e6, Nat.zero_add] at D6
      have G5 := get_any _ _ _ _ _ D5.out
      have G6 := get_any _ _ _ _ _ D6.out
      rw [M.getL_put m [] hm] at G5
      rw [M.getL_put m1 [] hm1l] at G6
      have HG5 := hide G5
      have HG6 := hide G6
      clear hb6 hbs6 G5 G6 e5 e6 HP6
      go_wp2_with fail
      refine HG5.out.mono ?_
      rintro e w7 ⟨rfl, rfl⟩
      go_wp2_with fail
      refine HG6.out.mono ?_
      rintro e w8 ⟨rfl, rfl⟩
      go_wp2
      go_ret
      exact ⟨rfl, H6.out⟩

theorem own : ownKnob Try.prog.godebug = none := by kernel_rfl
theorem laidOut : laidOutB Try.prog = true := by kernel_rfl

set_option maxRecDepth 100000 in
theorem lifted (os : Os) (started : os.Started) (H : Type) (enc : TypeId × Value → H) :
    ReturnsInHanded {} Try.checked os 9 .any (Rows.numOwnSpec.pre6 enc Try.prog Try.f9 Rows.numOwnRow.domain false) (Rows.numOwnSpec.post enc Try.prog Try.f9 false true false false) := by
  refine returnsInHanded_of_change (C := Try.checked) own started (by kernel_rfl) Try.func9
    (ChangeSpec.witness6 (enc := enc) (C := Try.checked) false ⟨#[], #[.slice none 0 0, .int .u64 0, .int .i64 0, .string ByteArray.empty], []⟩ 8 (by kernel_rfl) (by kernel_rfl) (by kernel_rfl) (by kernel_rfl)) ?_
  intro W base args ds gs before hval0 hW hcnd _
  have hval : ∀ (j : Nat) t v, Try.f9.params[j]? = some t → args[j]? = some v → Value.okWide Try.prog W .any base t v := hval0
  have hW' := hW
  obtain ⟨p, q, hA0, hV, rfl, hfz, hnd⟩ := hW
  have hA : DataW.TrodAll enc Try.prog W 0 (fun _ => true) true Try.f9.params.toList args.toList ds p := hA0
  rw [Try.params9] at hA hval
  obtain ⟨v0, vs0, d0, ds0, p0, q0, hargs, rfl, rfl, h0, r0⟩ := trodAll_cons hA
  obtain ⟨v1, vs1, d1, ds1, p1, q1, rfl, rfl, rfl, h1, r1⟩ := trodAll_cons r0
  obtain ⟨v2, vs2, d2, ds2, p2, q2, rfl, rfl, rfl, h2, r2⟩ := trodAll_cons r1
  obtain ⟨v3, vs3, d3, ds3, p3, q3, rfl, rfl, rfl, h3, r3⟩ := trodAll_cons r2
  obtain ⟨rfl, rfl, rfl⟩ := trodAll_nil r3
  obtain rfl : args = #[v0, v1, v2, v3] := by cases args; simp_all
  obtain ⟨rfl, rfl⟩ := trodVars_none hV
  obtain ⟨a0, n0, c0, rfl⟩ := okWide_slice Try.underlying23 (hval 0 23 v0 rfl rfl)
  have k0 := h0
  have lt0 : ∀ x ∈ p0, x.block < W.heap.size := by obtain ⟨m, hm⟩ := k0; exact DataW.trod_lt m _ _ _ hm
  obtain ⟨z0, w0⟩ : ∃ zs, Row .u8 W a0 n0 c0 zs := by
    obtain ⟨fuel, hf⟩ := h0
    rcases open_ints Try.underlying23 Try.underlying5 (by kernel_rfl) hf with ⟨hcs, _⟩ | ⟨x, l, c, zs, hcs, _, hl, hm, hz, _, hcell, hwz⟩
    · simp [Value.cells] at hcs; obtain ⟨rfl, rfl, rfl⟩ := hcs; exact ⟨[], row_none _ _⟩
    · simp [Value.cells] at hcs; obtain ⟨rfl, rfl, rfl⟩ := hcs; exact ⟨_, row_some hl hm (by simpa using hz) hcell hwz⟩
  obtain ⟨a1, rfl, rfl, rfl, w1⟩ := open_int Try.underlying22 (hval 1 22 v1 rfl rfl) h1
  obtain ⟨a2, rfl, rfl, rfl, w2⟩ := open_int Try.underlying2 (hval 2 2 v2 rfl rfl) h2
  obtain ⟨a3, rfl, rfl, rfl, w3⟩ := Go.ChangeMaps.open_string Try.underlying9 (hval 3 9 v3 rfl rfl) h3
  clear hA0 hval0
  refine (walk a0 n0 c0 z0 a1 a2 a3 W w0 w1 w2 w3).mono fun e W' ⟨he, bel⟩ => ?_
  subst he
  exact ⟨_, rfl, _, _, _, [], _, [], hW', trodAll_mk1 (shut_bool Try.underlying4 _), (trodAll_cons_mk (Below.trod laidOut (by kernel_rfl) (of_decide_eq_true (by kernel_rfl)) k0 bel lt0) (trodAll_cons_mk (shut_int Try.underlying22 w1) (trodAll_cons_mk (shut_int Try.underlying2 w2) (trodAll_cons_mk (Go.ChangeMaps.shut_string Try.underlying9 w3) trodAll_mk0)))), rfl, bel.frame _, fun h => by cases h⟩

theorem over : Rows.numOwnRow.holds Try.pinned (OpenSpec.ofChange Rows.numOwnSpec) :=
  OpenClaim.holds_of_wide 9 Try.f9 rfl rfl rfl rfl rfl rfl rfl ⟨rfl, rfl, rfl, rfl, rfl⟩ rfl rfl rfl rfl rfl (by kernel_rfl) Try.func9 (by kernel_rfl)
    (of_decide_eq_true (by kernel_rfl)) (by unfold Func.isWrapper; first | (rw [if_pos (by decide +kernel)]; kernel_rfl) | (rw [if_neg (by decide +kernel)]; exact ⟨rfl, rfl⟩))
    (fun os started H enc _ => lifted os started H enc)

theorem proved : Rows.NumOwnSaid := over
#print axioms proved
end Go.Proofs.Ytjkfobgeklnblaa.numOwn
