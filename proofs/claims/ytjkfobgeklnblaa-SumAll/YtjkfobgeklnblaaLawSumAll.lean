/- The statement SumAll: the sum of bytes is the document's, at once and part by part, for all bytes and all cuts. -/
import Derived.Test.YtjkfobgeklnblaaLawF
import Derived.Test.YtjkfobgeklnblaaLawC
import Derived.Test.YtjkfobgeklnblaaBegun
namespace Go.Proofs.Ytjkfobgeklnblaa.sumAll
open Go.ChangeShapes Go.WideShapes Go.ChangeAt Go.RowKit

theorem part_len (x : Int) : ∃ (r : Int) (i : Nat), x.tmod 40 = r ∧ -40 < r ∧ r < 40 ∧ (r + 40) % 40 = (i : Int) ∧ i < 40 := by
  obtain ⟨r, i, h1, h2, h3, h4, h5⟩ := place x 40 (by omega)
  exact ⟨r, i, h1, by omega, by omega, h4, h5⟩

theorem take_to (L : List Int) (at' to : Nat) (h : at' ≤ to) : L.take at' ++ (L.drop at').take (to - at') = L.take to := by
  rw [← List.drop_take, ← Nat.min_eq_left h, ← List.take_take, Nat.min_eq_left h]
  exact List.take_append_drop _ _

/-- All that the loop keeps. -/
structure St (W0 : World) (a : Option Addr) (k c : Nat) (L : List Int) (kk at' : Nat) (v : Value) (wr : World) : Prop where
  atk : at' ≤ k
  own : ∃ ps ls, OwnP wr (W0.heap.size + 1) v ps ∧ ps.length = kk ∧ Bss W0 ps ls ∧ ls.flatten = L.take at'
  obj : wr.heap[W0.heap.size]? = some (sumObj (sumS (0, 0) (L.take at')))
  bel : Below W0.heap.size W0 wr

/-- Behind one part more. -/
theorem St.step {W0 : World} {a : Option Addr} {k c : Nat} {L : List Int} {kk at' to : Nat} {v2 : Value} {w1 w2 : World} {ps : List (Option Addr × Nat × Nat)} {ls : List (List Int)} {o1 : Obj} {p : Option Addr × Nat × Nat}
    (hbs : Bs W0 a k c L) (hat : at' ≤ to) (hto : to ≤ k) (hp : p = (cutA a c at', to - at', c - at'))
    (hps : ps.length = kk) (hb : Bss W0 ps ls) (hfl : ls.flatten = L.take at')
    (ho : OwnP w1 (W0.heap.size + 1) v2 (ps ++ [p])) (hobj : w2.heap[W0.heap.size]? = some (sumObj (sumS (sumS (0, 0) (L.take at')) [(L.drop at').take (to - at')].flatten)))
    (hg : (w1.alloc o1).grownBy w2 (some W0.heap.size)) (hbel : Below W0.heap.size W0 w1) : St W0 a k c L (kk + 1) to v2 w2 := by
  refine ⟨hto, ⟨ps ++ [p], ls ++ [(L.drop at').take (to - at')], ?_, by simp [hps], ?_, ?_⟩, ?_, ?_⟩
  · have h1 := ho.later (below_alloc w1 o1 w1.heap.size (Nat.le_refl _))
    refine h1.kept hg ?_
    cases e : v2.ownBlock with
    | none => exact Or.inl rfl
    | some g => refine Or.inr fun e' => ?_; have := (h1.lt g e).1; simp at e'; omega
  · rw [hp]; exact hb.snoc (hbs.cutAt at' to (to - at') hat hto rfl)
  · rw [List.flatten_append, hfl]; simp [take_to L at' to hat]
  · rw [hobj, ← sumS_append]; simp [take_to L at' to hat]
  · exact (hbel.trans (below_alloc w1 o1 _ hbel.size)).trans (grown_below hg (Nat.le_refl _) (by have := hbel.size; simp; omega))

/-- Behind an append to the parts the sum is as it was. -/
theorem app_keeps {W0 wr w1 : World} {v : Value} {ps : List (Option Addr × Nat × Nat)} {s : Nat × Nat} {o1 : Obj} (ho : OwnP wr (W0.heap.size + 1) v ps) (hobj : wr.heap[W0.heap.size]? = some (sumObj s)) (hbel : Below W0.heap.size W0 wr) (hg : (wr.alloc o1).grownBy w1 v.ownBlock) :
    w1.heap[W0.heap.size]? = some (sumObj s) ∧ Below W0.heap.size W0 w1 := by
  have hlt := lt_of_heap hobj
  have hne : ∀ k, v.ownBlock = some k → W0.heap.size + 1 ≤ k := fun k hk => (ho.lt k hk).1
  constructor
  · have := hg.block W0.heap.size (by simp; omega) (fun e => by have := hne _ e.symm; omega)
    rw [this, Below.heap_alloc _ _ _ hlt]
    exact hobj
  · exact (hbel.trans (below_alloc wr o1 _ hbel.size)).grown hg (by have := hbel.size; simp; omega) (fun k hk => by have := hne k hk; omega)

set_option maxRecDepth 100000 in
set_option maxHeartbeats 4000000 in
theorem walk (a : Option Addr) (n c : Nat) (z : List Int) (a' : Option Addr) (n' c' : Nat) (z' : List Int) (w : World) (h : Row .u8 w a n c z) (h' : Row .i64 w a' n' c' z') :
    Calls Try.prog 5 #[.slice a n c, .slice a' n' c'] w fun e w' => e = .returned (.bool true) ∧ Below w.heap.size w w' := by
  have HB := hide h.bs
  have HB' := hide h'
  have hc1' := h'.2.1
  have hc2' := h'.2.2.1
  have HZ := hide h'.1
  clear h h'
  go_enter Try.func5, Try.ntmps5
  go_wp2_with fail
  refine (begun_true _).mono ?_
  rintro e W0 ⟨rfl, hb1⟩
  have H1 := hide hb1
  have HB1 := hide (HB.out.later hb1 (Nat.le_refl _))
  have R1 := hide (HB'.out.later hb1 (Nat.le_refl _))
  clear hb1 HB HB'
  go_wp2_with fail
  refine (short_any _ _ _ 400 _ _ _ HB1.out (by omega) (by rfl)).mono ?_
  rintro e w1' ⟨k, L, rfl, rfl, hkn, hk4, HL, hbs⟩
  have HS := hide hbs
  have hkc := hbs.2.1
  have hc63 := hbs.2.2.1
  clear HB1 hbs HL
  go_wp2_with fail
  refine (new_any _).mono ?_
  rintro e w2 ⟨rfl, rfl⟩
  obtain ⟨W1, HW1⟩ : ∃ V, Hid (V = w1'.alloc (sumObj (0, 0))) := ⟨_, rfl⟩
  have hb01 : Below w1'.heap.size w1' W1 := by rw [HW1.out]; exact below_alloc _ _ _ (Nat.le_refl _)
  have hg1 : W1.heap[w1'.heap.size]? = some (sumObj (sumS (0, 0) (L.take 0))) := by rw [HW1.out]; exact heap_alloc_new _ _
  rw [← HW1.out]
  have S0 : St w1' a k c L 0 0 (.slice none 0 0) W1 := ⟨by omega, ⟨[], [], OwnP.nil _ _, rfl, Bss.nil _, by simp⟩, hg1, hb01⟩
  have HS0 := hide S0
  clear hg1 hb01 HW1 S0
  go_wp2
  go_loopw [7, 8, 9] (fun v t i wr => ∃ (kk at' : Nat), kk ≤ n' ∧ kk ≤ 12 ∧ i = .int .i64 kk ∧ t = .int .i64 at' ∧ at' ≤ k ∧ Hid (St w1' a k c L kk at' v wr)) (fun _ _ i _ => 12 - (intOf i).toNat)
  case atStart => exact ⟨0, 0, by omega, by omega, rfl, rfl, by omega, HS0⟩
  case round =>
    obtain ⟨kk, at', hk1, hk2, rfl, rfl, hatk, HT⟩ := hrel
    obtain ⟨ps, ls, hown, hps, hbss, hfl⟩ := HT.out.own
    have hbel := HT.out.bel
    have hobj := HT.out.obj
    by_cases hin : kk < n' ∧ kk < 12
    · obtain ⟨hin1, hin2⟩ := hin
      obtain ⟨rb, ro, rfl, hcell⟩ := (R1.out.later hbel (Nat.le_refl _)).2.2.2.2.1 (by omega)
      have hck := hcell kk hin1
      have hwf := wf_i64 (R1.out.2.2.2.2.2 (z'[kk]?.getD 0) (by
        have : kk < z'.length := by rw [HZ.out]; exact hin1
        simp [this]))
      obtain ⟨r, d, hr, hr1, hr2, hd, hd40⟩ := part_len (z'[kk]?.getD 0)
      obtain ⟨to, hto⟩ : ∃ to, to = min (at' + d) k := ⟨_, rfl⟩
      have m1 : (if (k : Int) < (at' : Int) + (d : Int) then (k : Int) else (at' : Int) + (d : Int)) = (to : Int) := by
        by_cases hh : k < at' + d
        · rw [if_pos (by omega)]; omega
        · rw [if_neg (by omega)]; omega
      have hto1 : at' ≤ to := by omega
      have hto2 : to ≤ k := by omega
      have s1 := fun W => run_cutA a k c at' to (to - at') (at' : Int) (to : Int) rfl rfl hto1 (by omega) rfl W
      have HO := hide hown
      have HP := hide hps
      have HBS := hide hbss
      have HF := hide hfl
      have HBE := hide hbel
      have HOB := hide hobj
      have hsz : w1'.heap.size + 1 ≤ wr.heap.size := by have := lt_of_heap hobj; omega
      clear hcell hto hown hps hbss hfl hbel hobj
      go_wp2_with (at_builtin; refine wpList_appP rfl (.tmp 44) (.tmp 49) rfl (w1'.heap.size + 1) _ ps rfl (HO.out.later (below_alloc _ _ _ (Nat.le_refl _))) wr.heap.size (cutA a c at', to - at', c - at') rfl (by simp [sv]) (by rw [HP.out]; omega) (by simp; omega) ?_)
      intro v2 w1 ho1 hg1
      obtain ⟨hob1, hbe1⟩ := app_keeps HO.out HOB.out HBE.out hg1
      have hbc := (HS.out.later hbe1 (Nat.le_refl _)).cutAt at' to (to - at') hto1 hto2 rfl
      have hb1a := below_alloc w1 (.cells #[.slice (cutA a c at') (to - at') (c - at')] 23) w1.heap.size (Nat.le_refl _)
      have hob2 : (w1.alloc (.cells #[.slice (cutA a c at') (to - at') (c - at')] 23)).heap[w1'.heap.size]? = some (sumObj (sumS (0, 0) (L.take at'))) := by
        rw [Below.heap_alloc _ _ _ (lt_of_heap hob1)]; exact hob1
      have HA := hide (add_any w1'.heap.size 1 1 (some ⟨w1.heap.size, 0, none⟩) _ _ _ hob2 (sumS_lt _ _ (by decide)) (by omega) (Ps.one hbc))
      have HO1 := hide ho1
      have HE1 := hide hbe1
      clear hob1 hbe1 hbc hb1a hob2 hg1 ho1
      go_wp2_with fail
      refine HA.out.mono ?_
      rintro e w2 ⟨rfl, hob3, hgr3⟩
      have hpe := neq_sum w1'.heap.size w2
      have HT2 := hide (St.step HS.out hto1 hto2 rfl HP.out HBS.out HF.out HO1.out hob3 hgr3 HE1.out)
      clear hob3 hgr3 HA HO1 HE1 HO
      go_wp2
      go_roundw
      case rel => exact ⟨kk + 1, to, by omega, by omega, by go_num, rfl, hto2, HT2⟩
      case measure => simp [intOf]; omega
    · have HO := hide hown
      have HP := hide hps
      have HBS := hide hbss
      have HF := hide hfl
      have HBE := hide hbel
      have HOB := hide hobj
      have hsz : w1'.heap.size + 1 ≤ wr.heap.size := by have := lt_of_heap hobj; omega
      have s1 := fun W => run_fromA a k c at' (k - at') (at' : Int) rfl hatk rfl W
      have HLK := hide HS.out.1
      clear hown hps hbss hfl hbel hobj
      have hcs : ¬ kk < n' ∨ (kk < n' ∧ ¬ kk < 12) := by omega
      clear hin
      rcases hcs with hh | ⟨hh, hh2⟩
      all_goals
        go_wp2_with (at_builtin; refine wpList_appP rfl (.tmp 61) (.tmp 65) rfl (w1'.heap.size + 1) _ ps rfl (HO.out.later (below_alloc _ _ _ (Nat.le_refl _))) wr.heap.size (cutA a c at', k - at', c - at') rfl (by simp [sv]) (by rw [HP.out]; omega) (by simp; omega) ?_)
        intro v2 w1 ho1 hg1
        obtain ⟨hob1, hbe1⟩ := app_keeps HO.out HOB.out HBE.out hg1
        have hbc := (HS.out.later hbe1 (Nat.le_refl _)).cutAt at' k (k - at') hatk (Nat.le_refl _) rfl
        have hob2 : (w1.alloc (.cells #[.slice (cutA a c at') (k - at') (c - at')] 23)).heap[w1'.heap.size]? = some (sumObj (sumS (0, 0) (L.take at'))) := by
          rw [Below.heap_alloc _ _ _ (lt_of_heap hob1)]; exact hob1
        have HA := hide (add_any w1'.heap.size 1 1 (some ⟨w1.heap.size, 0, none⟩) _ _ _ hob2 (sumS_lt _ _ (by decide)) (by omega) (Ps.one hbc))
        have HO1 := hide ho1
        have HE1 := hide hbe1
        clear hob1 hbe1 hbc hob2 hg1 ho1
        go_wp2_with fail
        refine HA.out.mono ?_
        rintro e w2 ⟨rfl, hob3, hgr3⟩
        have HT2 := St.step HS.out hatk (Nat.le_refl _) rfl HP.out HBS.out HF.out HO1.out hob3 hgr3 HE1.out
        obtain ⟨ps2, ls2, hown2, hps2, hbss2, hfl2⟩ := HT2.own
        obtain ⟨pa2, pc2, rfl, hPs2⟩ := hown2.ps (hbss2.later HT2.bel (Nat.le_refl _))
        rw [List.take_of_length_le (by rw [HLK.out]; exact Nat.le_refl _)] at hfl2
        rw [hps2] at hPs2 ⊢
        have hobj2 := HT2.obj
        rw [List.take_of_length_le (by rw [HLK.out]; exact Nat.le_refl _)] at hobj2
        have Hobj := hide hobj2
        have HPs := hide hPs2
        have Hfl := hide hfl2
        have HE2 := hide HT2.bel
        have HS2 := hide (HS.out.later HT2.bel (Nat.le_refl _))
        clear hob3 hgr3 HA HO1 HE1 HO HT2 hobj2 hPs2 hfl2 hown2 hps2 hbss2
        go_wp2_with fail
        refine (refSum_any _ _ _ _ _ HS2.out).mono ?_
        rintro e w2' ⟨rfl, rfl⟩
        go_wp2_with fail
        refine (of_one 1 (Ps.one HS2.out)).mono ?_
        rintro e w3 ⟨S3, rfl, HS3, _, hb3⟩
        have hb23 : Below w2'.heap.size w2' w3 := (below_alloc w2' _ _ (Nat.le_refl _)).trans (hb3.mono (by simp))
        have hS3 : (S3 : Int) = (sumOf L : Int) := by rw [HS3.out]
        have HPs3 := hide (HPs.out.later hb23)
        have Hobj3 := hide ((hb23.block _ (lt_of_heap Hobj.out)).trans Hobj.out)
        have HE3 := hide (HE2.out.trans (hb23.mono HE2.out.size))
        have HO3 := hide (of_any _ _ pc2 _ _ HPs3.out (by omega))
        clear hb3 hb23 HPs Hobj HE2 HS3
        rw [Hfl.out] at HO3
        go_wp2_with fail
        refine HO3.out.mono ?_
        rintro e w4 ⟨rfl, hb4⟩
        have HPs4 := hide (HPs3.out.later hb4)
        have Hobj4 := hide ((hb4.block _ (lt_of_heap Hobj3.out)).trans Hobj3.out)
        have HE4 := hide (HE3.out.trans (hb4.mono HE3.out.size))
        have HV := hide (value_any _ _ _ Hobj4.out (sumS_lt _ _ (by decide)))
        clear hb4 HPs3 Hobj3 HE3 HO3
        go_wp2_with fail
        refine HV.out.mono ?_
        rintro e w5 ⟨rfl, nq, rfl⟩
        have hbq : Below w4.heap.size w4 (w4.drewN nq) := ⟨rfl, rfl, rfl, Nat.le_refl _, fun _ _ => rfl⟩
        have HPs5 := hide (HPs4.out.later hbq)
        have HE5 := hide (HE4.out.trans (hbq.mono HE4.out.size))
        generalize w4.drewN nq = w5 at *
        clear hbq HPs4 HE4 HV Hobj4
        go_wp2_with fail
        refine (new_any _).mono ?_
        rintro e w6 ⟨rfl, rfl⟩
        have hb6 := below_alloc w5 (sumObj (0, 0)) w5.heap.size (Nat.le_refl _)
        have HAD := hide (add_any w5.heap.size (kk + 1) pc2 pa2 (0, 0) ls2 _ (heap_alloc_new w5 _) (by decide) (by omega) (HPs5.out.later hb6))
        rw [Hfl.out] at HAD
        go_wp2_with fail
        refine HAD.out.mono ?_
        rintro e w7 ⟨rfl, hob7, hg7⟩
        have HV7 := hide (value_any _ _ _ hob7 (sumS_lt _ _ (by decide)))
        have HE7 := hide (HE5.out.trans ((hb6.trans (grown_below hg7 (Nat.le_refl _) (by simp))).mono HE5.out.size))
        clear hob7 hg7 hb6 HAD HPs5 HE5
        go_wp2_with fail
        refine HV7.out.mono ?_
        rintro e w8 ⟨rfl, nq, rfl⟩
        have hbq : Below w7.heap.size w7 (w7.drewN nq) := ⟨rfl, rfl, rfl, Nat.le_refl _, fun _ _ => rfl⟩
        have HE8 := hide (HE7.out.trans (hbq.mono HE7.out.size))
        have HF8 := hide (H1.out.trans (HE8.out.mono H1.out.size))
        have eV : sumV (sumS (0, 0) L) = sumOf L := rfl
        clear hbq HE7 HE8 HV7
        go_wp2
        go_ret
        exact ⟨rfl, HF8.out⟩

theorem own : ownKnob Try.prog.godebug = none := by kernel_rfl
theorem laidOut : laidOutB Try.prog = true := by kernel_rfl

set_option maxRecDepth 100000 in
theorem lifted (os : Os) (started : os.Started) (H : Type) (enc : TypeId × Value → H) :
    ReturnsInHanded {} Try.checked os 5 .any (Rows.sumAllSpec.pre6 enc Try.prog Try.f5 Rows.sumAllRow.domain false) (Rows.sumAllSpec.post enc Try.prog Try.f5 false true false false) := by
  refine returnsInHanded_of_change (C := Try.checked) own started (by kernel_rfl) Try.func5
    (ChangeSpec.witness6 (enc := enc) (C := Try.checked) false ⟨#[], #[.slice none 0 0, .slice none 0 0], []⟩ 8 (by kernel_rfl) (by kernel_rfl) (by kernel_rfl) (by kernel_rfl)) ?_
  intro W base args ds gs before hval0 hW hcnd _
  have hval : ∀ (j : Nat) t v, Try.f5.params[j]? = some t → args[j]? = some v → Value.okWide Try.prog W .any base t v := hval0
  have hW' := hW
  obtain ⟨p, q, hA0, hV, rfl, hfz, hnd⟩ := hW
  have hA : DataW.TrodAll enc Try.prog W 0 (fun _ => true) true Try.f5.params.toList args.toList ds p := hA0
  rw [Try.params5] at hA hval
  obtain ⟨v0, vs0, d0, ds0, p0, q0, hargs, rfl, rfl, h0, r0⟩ := trodAll_cons hA
  obtain ⟨v1, vs1, d1, ds1, p1, q1, rfl, rfl, rfl, h1, r1⟩ := trodAll_cons r0
  obtain ⟨rfl, rfl, rfl⟩ := trodAll_nil r1
  obtain rfl : args = #[v0, v1] := by cases args; simp_all
  obtain ⟨rfl, rfl⟩ := trodVars_none hV
  obtain ⟨a0, n0, c0, rfl⟩ := okWide_slice Try.underlying23 (hval 0 23 v0 rfl rfl)
  have k0 := h0
  have lt0 : ∀ x ∈ p0, x.block < W.heap.size := by obtain ⟨m, hm⟩ := k0; exact DataW.trod_lt m _ _ _ hm
  obtain ⟨z0, w0⟩ : ∃ zs, Row .u8 W a0 n0 c0 zs := by
    obtain ⟨fuel, hf⟩ := h0
    rcases open_ints Try.underlying23 Try.underlying5 (by kernel_rfl) hf with ⟨hcs, _⟩ | ⟨x, l, c, zs, hcs, _, hl, hm, hz, _, hcell, hwz⟩
    · simp [Value.cells] at hcs; obtain ⟨rfl, rfl, rfl⟩ := hcs; exact ⟨[], row_none _ _⟩
    · simp [Value.cells] at hcs; obtain ⟨rfl, rfl, rfl⟩ := hcs; exact ⟨_, row_some hl hm (by simpa using hz) hcell hwz⟩
  obtain ⟨a1, n1, c1, rfl⟩ := okWide_slice Try.underlying43 (hval 1 43 v1 rfl rfl)
  have k1 := h1
  have lt1 : ∀ x ∈ p1, x.block < W.heap.size := by obtain ⟨m, hm⟩ := k1; exact DataW.trod_lt m _ _ _ hm
  obtain ⟨z1, w1⟩ : ∃ zs, Row .i64 W a1 n1 c1 zs := by
    obtain ⟨fuel, hf⟩ := h1
    rcases open_ints Try.underlying43 Try.underlying3 (by kernel_rfl) hf with ⟨hcs, _⟩ | ⟨x, l, c, zs, hcs, _, hl, hm, hz, _, hcell, hwz⟩
    · simp [Value.cells] at hcs; obtain ⟨rfl, rfl, rfl⟩ := hcs; exact ⟨[], row_none _ _⟩
    · simp [Value.cells] at hcs; obtain ⟨rfl, rfl, rfl⟩ := hcs; exact ⟨_, row_some hl hm (by simpa using hz) hcell hwz⟩
  clear hA0 hval0
  refine (walk a0 n0 c0 z0 a1 n1 c1 z1 W w0 w1).mono fun e W' ⟨he, bel⟩ => ?_
  subst he
  exact ⟨_, rfl, _, _, _, [], _, [], hW', trodAll_mk1 (shut_bool Try.underlying4 _), (trodAll_cons_mk (Below.trod laidOut (by kernel_rfl) (of_decide_eq_true (by kernel_rfl)) k0 bel lt0) (trodAll_cons_mk (Below.trod laidOut (by kernel_rfl) (of_decide_eq_true (by kernel_rfl)) k1 bel lt1) trodAll_mk0)), rfl, bel.frame _, fun h => by cases h⟩

theorem over : Rows.sumAllRow.holds Try.pinned (OpenSpec.ofChange Rows.sumAllSpec) :=
  OpenClaim.holds_of_wide 5 Try.f5 rfl rfl rfl rfl rfl rfl rfl ⟨rfl, rfl, rfl, rfl, rfl⟩ rfl rfl rfl rfl rfl (by kernel_rfl) Try.func5 (by kernel_rfl)
    (of_decide_eq_true (by kernel_rfl)) (by unfold Func.isWrapper; first | (rw [if_pos (by decide +kernel)]; kernel_rfl) | (rw [if_neg (by decide +kernel)]; exact ⟨rfl, rfl⟩))
    (fun os started H enc _ => lifted os started H enc)

theorem proved : Rows.SumAllSaid := over
#print axioms proved
end Go.Proofs.Ytjkfobgeklnblaa.sumAll
