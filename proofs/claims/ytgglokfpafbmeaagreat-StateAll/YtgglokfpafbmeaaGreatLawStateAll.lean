/- The statement StateAll: changes done, all or none; what lies where then, for all rows of changes. -/
import Derived.Test.YtgglokfpafbmeaaGreatMqS
import Derived.Test.YtgglokfpafbmeaaGreatBeg7
import Derived.Test.YtgglokfpafbmeaaGreatLawA
namespace Go.Proofs.YtgglokfpafbmeaaGreat.stateAll
open Go.ChangeShapes Go.WideShapes Go.ChangeAt Go.RowKit Go.MapKept Go.ChangeMaps

set_option maxRecDepth 100000 in
set_option maxHeartbeats 4000000 in
theorem walk (pa : Option Addr) (n c : Nat) (es : List Sx) (w : World) (hP : Mss w pa n es) :
    Calls Tryz.prog 4 #[.slice pa n c] w fun e w' => e = .returned (.bool true) ∧ Below w.heap.size w w' := by
  have HP := hide hP
  clear hP
  go_enter Tryz.func4, Tryz.ntmps4
  go_wp2_with fail
  refine (begun7_true _).mono ?_
  rintro e w0 ⟨rfl, hb0⟩
  go_wp2_with fail
  refine (stateNew w0).mono ?_
  rintro e w9 ⟨rfl, rfl⟩
  go_wp2_with fail
  refine (refNew _).mono ?_
  rintro e w8 ⟨rfl, rfl⟩
  have HT := hide (Tw.new hb0)
  clear hb0
  generalize (newSt w0).alloc (.cells stZ 109) = W1 at *
  generalize (newSt w0).heap.size = r at *
  generalize w0.heap.size + 1 + 1 + 1 = s at *
  generalize w0.heap.size + 1 + 1 = d1 at *
  generalize w0.heap.size + 1 = l1 at *
  generalize w0.heap.size = v1 at *
  go_wp2_with fail
  refine (cutC W1 w pa n c es HP.out HT.out.bel).mono ?_
  rintro e W2 ⟨v, rfl, m, hm, hC, hbC⟩
  obtain ⟨pv, cv, rfl, _⟩ := hC.at
  have HI : Hid (∃ a, Tw (fun k => (Value.slice pv m cv).ownBlock = some k) w W2 s v1 l1 d1 r a a (12 * 0) ∧ CutR W1 w W2 (.slice pv m cv) m) := ⟨ab0, HT.out.hold hbC (fun k hk => hC.lt k hk), hC⟩
  clear hC hbC HT HP
  go_wp2
  go_loopw [16] (fun ix wr => ∃ t : Nat, t ≤ m ∧ ix = .int .i64 t ∧ Hid (∃ a, Tw (fun k => (Value.slice pv m cv).ownBlock = some k) w wr s v1 l1 d1 r a a (12 * t) ∧ CutR W1 w wr (.slice pv m cv) m)) (fun ix _ => m - (intOf ix).toNat)
  case atStart => exact ⟨0, by omega, rfl, HI⟩
  case round =>
    clear HI
    obtain ⟨t, ht, rfl, HI⟩ := hrel
    by_cases hlt : t < m
    · obtain ⟨a, hT, hC⟩ := HI.out
      have HT := hide hT
      have HC := hide hC
      obtain ⟨pv', cv', e', hat⟩ := hC.at
      obtain ⟨rfl, rfl⟩ : pv = pv' ∧ cv = cv' := by simpa using e'
      obtain ⟨b, e, rfl, hcell, hok, hle⟩ := hat t hlt
      obtain ⟨ep, en, ec, exs⟩ := e
      unfold Sx.val at hcell
      simp only at hcell hle
      have HM : Hid (Ms w ep en (exs.map Mq.m)) := hok.ms
      clear hT hC hat hok e' HI
      go_wp2_with fail
      refine (HT.out.do1 ep en ec exs HM.out (by omega)).mono ?_
      rintro e w3 ⟨rfl, hT3, hK3⟩
      have HT3 := hide hT3
      have HC3 := hide (HC.out.keep hK3)
      clear hT3 hK3 hcell HT HC
      go_wp2_with fail
      refine (HT3.out.do2 ep en ec exs HM.out (by omega)).mono ?_
      rintro e w4 ⟨rfl, hT4, hK4⟩
      have HT4 := hide hT4
      have HC4 := hide (HC3.out.keep hK4)
      clear hT4 hK4 HT3 HC3
      generalize dErr a exs = er at *
      generalize dQ a exs = a2 at *
      go_wp2_with fail
      refine (HT4.out.cells1 (by omega)).mono ?_
      rintro e w5 ⟨v5, rfl, hC5, hT5, hb5⟩
      have HX5 := hide hC5
      have HT5 := hide hT5
      have HC5 := hide (HC4.out.keep (fun k hk => hb5.block k (HC4.out.lt k hk).2))
      clear hC5 hT5 hb5 HT4 HC4
      go_wp2_with fail
      refine (HT5.out.cells2).mono ?_
      rintro e w6 ⟨v6, rfl, hC6, hT6, hb6⟩
      have HX6 := hide (And.intro (HX5.out.later hb6) hC6)
      have HT6 := hide hT6
      have HC6 := hide (HC5.out.keep (fun k hk => hb6.block k (HC5.out.lt k hk).2))
      clear hC6 hT6 hb6 HT5 HC5 HX5
      go_wp2_with fail
      refine (HT6.out.same HX6.out.1 HX6.out.2).mono ?_
      rintro e w7 ⟨rfl, hT7, hb7⟩
      have HN : Hid (∃ a, Tw (fun k => (Value.slice (some ⟨b, 0, none⟩) m cv).ownBlock = some k) w w7 s v1 l1 d1 r a a (12 * (t + 1)) ∧ CutR W1 w w7 (.slice (some ⟨b, 0, none⟩) m cv) m) := ⟨a2, hT7.more (by omega), HC6.out.keep (fun k hk => hb7.block k (HC6.out.lt k hk).2)⟩
      clear hT7 hb7 HT6 HC6 HX6 HM
      go_wp2
      exact ⟨⟨t + 1, by omega, by simp, HN⟩, by simp [intOf]; omega⟩
    · have HF : Hid (Below w.heap.size w wr) := by obtain ⟨a, h, _⟩ := HI.out; exact h.bel
      clear HI
      go_wp2
      go_ret
      exact ⟨rfl, HF.out⟩

theorem own : ownKnob Tryz.prog.godebug = none := by kernel_rfl
theorem laidOut : laidOutB Tryz.prog = true := by kernel_rfl

set_option maxRecDepth 100000 in
theorem lifted (os : Os) (started : os.Started) (H : Type) (enc : TypeId × Value → H) :
    ReturnsInHanded {} Tryz.checked os 4 .any (Rows.stateAllSpec.pre6 enc Tryz.prog Tryz.f4 Rows.stateAllRow.domain false) (Rows.stateAllSpec.post enc Tryz.prog Tryz.f4 false true false false) := by
  refine returnsInHanded_of_change (C := Tryz.checked) own started (by kernel_rfl) Tryz.func4
    (ChangeSpec.witness6 (enc := enc) (C := Tryz.checked) false ⟨#[], #[.slice none 0 0], []⟩ 8 (by kernel_rfl) (by kernel_rfl) (by kernel_rfl) (by kernel_rfl)) ?_
  intro W base args ds gs before hval0 hW hcnd _
  have hval : ∀ (j : Nat) t v, Tryz.f4.params[j]? = some t → args[j]? = some v → Value.okWide Tryz.prog W .any base t v := hval0
  have hW' := hW
  obtain ⟨p, q, hA0, hV, rfl, hfz, hnd⟩ := hW
  have hA : DataW.TrodAll enc Tryz.prog W 0 (fun _ => true) true Tryz.f4.params.toList args.toList ds p := hA0
  rw [Tryz.params4] at hA hval
  obtain ⟨v0, vs0, d0, ds0, p0, q0, hargs, rfl, rfl, h0, r0⟩ := trodAll_cons hA
  obtain ⟨rfl, rfl, rfl⟩ := trodAll_nil r0
  obtain rfl : args = #[v0] := by cases args; simp_all
  obtain ⟨rfl, rfl⟩ := trodVars_none hV
  obtain ⟨a0, n0, c0, rfl⟩ := okWide_slice Tryz.underlying46 (hval 0 46 v0 rfl rfl)
  have k0 := h0
  have lt0 : ∀ x ∈ p0, x.block < W.heap.size := by obtain ⟨m, hm⟩ := k0; exact DataW.trod_lt m _ _ _ hm
  obtain ⟨z0, w0⟩ : ∃ es : List Sx, Mss W a0 n0 es := by
    obtain ⟨fuel, hf⟩ := h0
    rcases open_mqss hf with hcs | ⟨x, l, c, es, hcs, hl, hm, hM⟩
    · simp [Value.cells] at hcs; obtain ⟨rfl, rfl, rfl⟩ := hcs; exact ⟨[], rfl, fun h => absurd h (Nat.lt_irrefl 0), by simp⟩
    · simp [Value.cells] at hcs; obtain ⟨rfl, rfl, rfl⟩ := hcs; exact ⟨es, hM⟩
  clear hA0 hval0
  refine (walk a0 n0 c0 z0 W w0).mono fun e W' ⟨he, bel⟩ => ?_
  subst he
  exact ⟨_, rfl, _, _, _, [], _, [], hW', trodAll_mk1 (shut_bool Tryz.underlying4 _), (trodAll_cons_mk (Below.trod laidOut (by kernel_rfl) (of_decide_eq_true (by kernel_rfl)) k0 bel lt0) trodAll_mk0), rfl, bel.frame _, fun h => by cases h⟩

theorem over : Rows.stateAllRow.holds Tryz.pinned (OpenSpec.ofChange Rows.stateAllSpec) :=
  OpenClaim.holds_of_wide 4 Tryz.f4 rfl rfl rfl rfl rfl rfl rfl ⟨rfl, rfl, rfl, rfl, rfl⟩ rfl rfl rfl rfl rfl (by kernel_rfl) Tryz.func4 (by kernel_rfl)
    (of_decide_eq_true (by kernel_rfl)) (by unfold Func.isWrapper; first | (rw [if_pos (by decide +kernel)]; kernel_rfl) | (rw [if_neg (by decide +kernel)]; exact ⟨rfl, rfl⟩))
    (fun os started H enc _ => lifted os started H enc)

theorem proved : Rows.StateAllSaid := over
#print axioms proved
end Go.Proofs.YtgglokfpafbmeaaGreat.stateAll
